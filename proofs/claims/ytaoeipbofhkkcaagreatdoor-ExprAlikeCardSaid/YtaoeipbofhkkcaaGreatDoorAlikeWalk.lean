/- ExprAlike answers true, at any two expressions; where the library's tables are laid. -/
import Derived.Test.YtaoeipbofhkkcaaGreatDoorPrOf
import Derived.Test.YtaoeipbofhkkcaaGreatDoorPrSam
namespace Go.Proofs.YtaoeipbofhkkcaaGreatDoor
open Go.RowKit Go.Proofs.NumMath

theorem ShX.one {e : Ex} {x y : List UInt8 × Nat} (hx : ShX e x) (hy : ShX e y) : x = y := by
  rcases hx with ⟨h1, rfl⟩ | ⟨r, h1, h2, h3, rfl⟩
  · rcases hy with ⟨_, rfl⟩ | ⟨r, _, _, h3, _⟩
    · rfl
    · rw [h1] at h3; cases h3
  · rcases hy with ⟨h4, _⟩ | ⟨r', h4, _, _, rfl⟩
    · rw [h3] at h4; cases h4
    · rw [toEx_inj r r' (h1.trans h4.symm)]
theorem ShX.len {e : Ex} {x : List UInt8 × Nat} (hx : ShX e x) (hn : nodesX e ≤ 300) : x.1.length < 1000000 := by
  rcases hx with ⟨h1, rfl⟩ | ⟨r, h1, h2, h3, rfl⟩
  · simp
  · have := textR_len r 1 h2
    rw [h1] at this
    show (textR r 1).length < 1000000
    omega
/-- what the two texts say of whether the trees are alike -/
theorem ShX.two {a b : Ex} {x y : List UInt8 × Nat} (hx : ShX a x) (hy : ShX b y) (hab : a ≠ b) : x.2 = 2 ∨ y.2 = 2 ∨ (x.2 = 0 ∧ y.2 = 0 ∧ x.1 ≠ y.1) := by
  rcases hx with ⟨h1, rfl⟩ | ⟨r, h1, h2, h3, rfl⟩
  · exact .inl rfl
  · rcases hy with ⟨h4, rfl⟩ | ⟨r', h4, h5, h6, rfl⟩
    · exact .inr (.inl rfl)
    · refine .inr (.inr ⟨rfl, rfl, fun h => hab ?_⟩)
      rw [← h1, ← h4, textR_inj h2 h5 h]
theorem ShX.kind {a : Ex} {x : List UInt8 × Nat} (hx : ShX a x) : x.2 = 0 ∨ x.2 = 2 := by
  rcases hx with ⟨_, rfl⟩ | ⟨_, _, _, _, rfl⟩
  · exact .inr rfl
  · exact .inl rfl
set_option maxHeartbeats 8000000 in
set_option maxRecDepth 100000 in
theorem exprAlike_walk (w : World) (v v' : Value) (a b : Ex) (hv : ExV w v a) (hv' : ExV w v' b) (m : Int) (hT : Tab16 w) (hm : MaxAt w m) : Calls Tryz.prog 7 #[v, v'] w fun x w' => x = .returned (.bool true) ∧ Below w.heap.size w w' := by
  have HVa := Lib.hid hv
  have HVb := Lib.hid hv'
  obtain ⟨x, hx⟩ := ShX.some a
  obtain ⟨y, hy⟩ := ShX.some b
  obtain ⟨A, hA⟩ : ∃ A, a = A := ⟨_, rfl⟩
  obtain ⟨B, hB⟩ : ∃ B, b = B := ⟨_, rfl⟩
  rw [hA] at HVa hx
  rw [hB] at HVb hy
  obtain ⟨ao, an, sa, al⟩ := a
  obtain ⟨bo, bn, bs, bl⟩ := b
  obtain ⟨hn, p, o, asp, ac, rfl, hsp, hll⟩ := hv
  obtain ⟨hn', p', o', bsp, bc, rfl, hsp', hll'⟩ := hv'
  obtain ⟨aq, haq⟩ : ∃ q, al.length = q := ⟨_, rfl⟩
  obtain ⟨bq, hbq⟩ : ∃ q, bl.length = q := ⟨_, rfl⟩
  rw [haq] at HVa ⊢
  rw [hbq] at HVb ⊢
  clear hsp hll hsp' hll' haq hbq hA hB
  have hB0 := below_2o w (Obj.cells #[.string ⟨ao.toArray⟩, .int .u16 (an : Nat), .string ⟨sa.toArray⟩, .slice asp aq ac] 25) (Obj.cells #[.string ⟨bo.toArray⟩, .int .u16 (bn : Nat), .string ⟨bs.toArray⟩, .slice bsp bq bc] 25)
  obtain ⟨g0, g1⟩ := new_two w (Obj.cells #[.string ⟨ao.toArray⟩, .int .u16 (an : Nat), .string ⟨sa.toArray⟩, .slice asp aq ac] 25) (Obj.cells #[.string ⟨bo.toArray⟩, .int .u16 (bn : Nat), .string ⟨bs.toArray⟩, .slice bsp bq bc] 25)
  have HGa := Lib.hid g0
  have HGb := Lib.hid g1
  have HSm := Lib.hid (small_any _ _ _ (HVa.out.below hB0))
  have HSm2 := Lib.hid (fun W (h : Below w.heap.size w W) => small_any _ _ W (HVb.out.below h))
  have HB0 := Lib.hid hB0
  have HM := Lib.hid hm
  have HT := Lib.hid hT
  have HA := Lib.hid (fun W (h : Below w.heap.size w W) => alive5_any m W (HM.out.below h) (HT.out.below h))
  clear hB0 g0 g1 hm hT
  go_enter Tryz.func7, Tryz.ntmps7
  go_wp2_with (go_at_call 8; refine HSm.out.mono ?_)
  rintro _ w1 ⟨bb, rfl, hsm, hB1⟩
  have HB1 := Lib.hid (HB0.out.trans (hB1.mono HB0.out.size))
  have HGa1 := Lib.hid (below_heap hB1 HGa.out)
  have HGb1 := Lib.hid (below_heap hB1 HGb.out)
  obtain ⟨a0, a1, a2, a3⟩ := cells_box HGb1.out
  clear hB1
  cases bb
  · clear hsm
    go_wp2_with (go_at_call 9; refine (HA.out _ HB1.out).mono ?_; rintro _ w2 ⟨rfl, hB2⟩)
    go_ret
    exact ⟨rfl, HB1.out.trans (hB2.mono HB1.out.size)⟩
  have HSM := Lib.hid (hsm rfl)
  clear hsm
  go_wp2_with (go_at_call 8; refine (HSm2.out _ HB1.out).mono ?_)
  rintro _ w2 ⟨bb, rfl, hsm2, hB2⟩
  have HGa2 := Lib.hid (below_heap hB2 HGa1.out)
  have HGb2 := Lib.hid (below_heap hB2 HGb1.out)
  have HB2 := Lib.hid (HB1.out.trans (hB2.mono HB1.out.size))
  obtain ⟨h0, h1, h2, h3⟩ := cells_box HGa2.out
  clear hB2 a0 a1 a2 a3
  cases bb
  · clear hsm2
    go_wp2_with (go_at_call 9; refine (HA.out _ HB2.out).mono ?_; rintro _ w3 ⟨rfl, hB3⟩)
    go_ret
    exact ⟨rfl, HB2.out.trans (hB3.mono HB2.out.size)⟩
  have hsm2 := hsm2 rfl
  have hsm := HSM.out
  have hsA := lightX_short _ _ hsm.1
  have hsB := lightX_short _ _ hsm2.1
  have HSa := Lib.hid (pShow_any _ A x w2 hsA (HVa.out.below HB2.out) (HT.out.below HB2.out) hx (hx.len hsm.2))
  have HSb := Lib.hid (fun W (h : Below w.heap.size w W) => pShow_any _ B y W hsB (HVb.out.below h) (HT.out.below h) hy (hy.len hsm2.2))
  have H1 := Lib.hid (fun W (h : Below w.heap.size w W) => pSame_any _ _ A B W hsA hsB (HVa.out.below h) (HVb.out.below h))
  have H2 := Lib.hid (fun W (h : Below w.heap.size w W) => pSame_any _ _ A A W hsA hsA (HVa.out.below h) (HVa.out.below h))
  have H3 := Lib.hid (fun W (h : Below w.heap.size w W) => pSame_any _ _ B A W hsB hsA (HVb.out.below h) (HVa.out.below h))
  rw [(sameX_eq A A).2 rfl] at H2
  by_cases hab : A = B
  · subst hab
    obtain rfl := hx.one hy
    rw [(sameX_eq A A).2 rfl] at H1 H3
    obtain ⟨S, k⟩ := x
    have hk := hx.kind
    dsimp only at HSa HSb hk
    clear hsm hsm2 hsA hsB hx hy
    have hkk : ((k : Int) == (k : Int)) = true := by simp
    rcases hk with rfl | rfl
    · go_wp2_with (first
        | (go_at_call 14; (with_reducible refine HSa.out.mono ?_); rintro _ w3 ⟨rfl, hB3⟩
           have HB3 := Lib.hid (HB2.out.trans (hB3.mono HB2.out.size))
           have HGa3 := Lib.hid (below_heap hB3 HGa2.out)
           have HGb3 := Lib.hid (below_heap hB3 HGb2.out)
           obtain ⟨b0, b1, b2, b3⟩ := cells_box HGb3.out
           clear hB3)
        | (go_at_call 14; (with_reducible refine (HSb.out _ HB3.out).mono ?_); rintro _ w4 ⟨rfl, hB4⟩
           have HB4 := Lib.hid (HB3.out.trans (hB4.mono HB3.out.size))
           have HGa4 := Lib.hid (below_heap hB4 HGa3.out)
           have HGb4 := Lib.hid (below_heap hB4 HGb3.out)
           obtain ⟨c0, c1, c2, c3⟩ := cells_box HGa4.out
           obtain ⟨d0, d1, d2, d3⟩ := cells_box HGb4.out
           clear hB4)
        | (go_at_call 20; (with_reducible refine (H1.out _ HB4.out).mono ?_); rintro _ w5 ⟨rfl, hB5⟩
           have HB5 := Lib.hid (HB4.out.trans (hB5.mono HB4.out.size))
           have HGa5 := Lib.hid (below_heap hB5 HGa4.out)
           have HGb5 := Lib.hid (below_heap hB5 HGb4.out)
           obtain ⟨e0, e1, e2, e3⟩ := cells_box HGa5.out
           clear hB5)
        | (go_at_call 20; (with_reducible refine (H2.out _ HB5.out).mono ?_); rintro _ w6 ⟨rfl, hB6⟩
           have HB6 := Lib.hid (HB5.out.trans (hB6.mono HB5.out.size))
           obtain ⟨f0, f1, f2, f3⟩ := cells_box (below_heap hB6 HGa5.out)
           obtain ⟨g0, g1, g2, g3⟩ := cells_box (below_heap hB6 HGb5.out)
           clear hB6)
        | (go_at_call 20; (with_reducible refine (H3.out _ HB6.out).mono ?_); rintro _ w7 ⟨rfl, hB7⟩
           have HB7 := Lib.hid (HB6.out.trans (hB7.mono HB6.out.size))
           clear hB7)
        | (go_at_call 9; refine (HA.out _ HB7.out).mono ?_; rintro _ w8 ⟨rfl, hB8⟩))
      go_ret
      exact ⟨rfl, HB7.out.trans (hB8.mono HB7.out.size)⟩
    · go_wp2_with (first
        | (go_at_call 14; (with_reducible refine HSa.out.mono ?_); rintro _ w3 ⟨rfl, hB3⟩
           have HB3 := Lib.hid (HB2.out.trans (hB3.mono HB2.out.size))
           have HGa3 := Lib.hid (below_heap hB3 HGa2.out)
           have HGb3 := Lib.hid (below_heap hB3 HGb2.out)
           obtain ⟨b0, b1, b2, b3⟩ := cells_box HGb3.out
           clear hB3)
        | (go_at_call 14; (with_reducible refine (HSb.out _ HB3.out).mono ?_); rintro _ w4 ⟨rfl, hB4⟩
           have HB4 := Lib.hid (HB3.out.trans (hB4.mono HB3.out.size))
           have HGa4 := Lib.hid (below_heap hB4 HGa3.out)
           have HGb4 := Lib.hid (below_heap hB4 HGb3.out)
           obtain ⟨c0, c1, c2, c3⟩ := cells_box HGa4.out
           obtain ⟨d0, d1, d2, d3⟩ := cells_box HGb4.out
           clear hB4)
        | (go_at_call 20; (with_reducible refine (H1.out _ HB4.out).mono ?_); rintro _ w5 ⟨rfl, hB5⟩
           have HB5 := Lib.hid (HB4.out.trans (hB5.mono HB4.out.size))
           have HGa5 := Lib.hid (below_heap hB5 HGa4.out)
           have HGb5 := Lib.hid (below_heap hB5 HGb4.out)
           obtain ⟨e0, e1, e2, e3⟩ := cells_box HGa5.out
           clear hB5)
        | (go_at_call 20; (with_reducible refine (H2.out _ HB5.out).mono ?_); rintro _ w6 ⟨rfl, hB6⟩
           have HB6 := Lib.hid (HB5.out.trans (hB6.mono HB5.out.size))
           obtain ⟨f0, f1, f2, f3⟩ := cells_box (below_heap hB6 HGa5.out)
           obtain ⟨g0, g1, g2, g3⟩ := cells_box (below_heap hB6 HGb5.out)
           clear hB6)
        | (go_at_call 20; (with_reducible refine (H3.out _ HB6.out).mono ?_); rintro _ w7 ⟨rfl, hB7⟩
           have HB7 := Lib.hid (HB6.out.trans (hB7.mono HB6.out.size))
           clear hB7)
        | (go_at_call 9; refine (HA.out _ HB7.out).mono ?_; rintro _ w8 ⟨rfl, hB8⟩))
      go_ret
      exact ⟨rfl, HB7.out.trans (hB8.mono HB7.out.size)⟩
  · have h12 : sameX A B = false := by rw [Bool.eq_false_iff]; intro h; exact hab ((sameX_eq A B).1 h)
    have h21 : sameX B A = false := by rw [Bool.eq_false_iff]; intro h; exact hab ((sameX_eq B A).1 h).symm
    rw [h12] at H1
    rw [h21] at H3
    have ht := hx.two hy hab
    have hk1 := hx.kind
    have hk2 := hy.kind
    obtain ⟨S, k⟩ := x
    obtain ⟨T, k'⟩ := y
    dsimp only at HSa HSb ht hk1 hk2
    clear hsm hsm2 hsA hsB hx hy hab h12 h21
    rcases hk1 with rfl | rfl
    · rcases hk2 with rfl | rfl
      · have hne : S ≠ T := by
          rcases ht with h | h | h
          · exact absurd h (by decide)
          · exact absurd h (by decide)
          · exact h.2.2
        have hne2 : (S == T) = false := by rw [beq_eq_false_iff_ne]; exact hne
        clear ht hne
        go_wp2_with (first
          | (go_at_call 14; (with_reducible refine HSa.out.mono ?_); rintro _ w3 ⟨rfl, hB3⟩
             have HB3 := Lib.hid (HB2.out.trans (hB3.mono HB2.out.size))
             have HGa3 := Lib.hid (below_heap hB3 HGa2.out)
             have HGb3 := Lib.hid (below_heap hB3 HGb2.out)
             obtain ⟨b0, b1, b2, b3⟩ := cells_box HGb3.out
             clear hB3)
          | (go_at_call 14; (with_reducible refine (HSb.out _ HB3.out).mono ?_); rintro _ w4 ⟨rfl, hB4⟩
             have HB4 := Lib.hid (HB3.out.trans (hB4.mono HB3.out.size))
             have HGa4 := Lib.hid (below_heap hB4 HGa3.out)
             have HGb4 := Lib.hid (below_heap hB4 HGb3.out)
             obtain ⟨c0, c1, c2, c3⟩ := cells_box HGa4.out
             obtain ⟨d0, d1, d2, d3⟩ := cells_box HGb4.out
             clear hB4)
          | (go_at_call 20; (with_reducible refine (H1.out _ HB4.out).mono ?_); rintro _ w5 ⟨rfl, hB5⟩
             have HB5 := Lib.hid (HB4.out.trans (hB5.mono HB4.out.size))
             have HGa5 := Lib.hid (below_heap hB5 HGa4.out)
             have HGb5 := Lib.hid (below_heap hB5 HGb4.out)
             obtain ⟨e0, e1, e2, e3⟩ := cells_box HGa5.out
             clear hB5)
          | (go_at_call 20; (with_reducible refine (H2.out _ HB5.out).mono ?_); rintro _ w6 ⟨rfl, hB6⟩
             have HB6 := Lib.hid (HB5.out.trans (hB6.mono HB5.out.size))
             obtain ⟨f0, f1, f2, f3⟩ := cells_box (below_heap hB6 HGa5.out)
             obtain ⟨g0, g1, g2, g3⟩ := cells_box (below_heap hB6 HGb5.out)
             clear hB6)
          | (go_at_call 20; (with_reducible refine (H3.out _ HB6.out).mono ?_); rintro _ w7 ⟨rfl, hB7⟩
             have HB7 := Lib.hid (HB6.out.trans (hB7.mono HB6.out.size))
             clear hB7)
          | (go_at_call 9; refine (HA.out _ HB7.out).mono ?_; rintro _ w8 ⟨rfl, hB8⟩))
        go_ret
        exact ⟨rfl, HB7.out.trans (hB8.mono HB7.out.size)⟩
      · clear ht
        go_wp2_with (first
          | (go_at_call 14; (with_reducible refine HSa.out.mono ?_); rintro _ w3 ⟨rfl, hB3⟩
             have HB3 := Lib.hid (HB2.out.trans (hB3.mono HB2.out.size))
             have HGa3 := Lib.hid (below_heap hB3 HGa2.out)
             have HGb3 := Lib.hid (below_heap hB3 HGb2.out)
             obtain ⟨b0, b1, b2, b3⟩ := cells_box HGb3.out
             clear hB3)
          | (go_at_call 14; (with_reducible refine (HSb.out _ HB3.out).mono ?_); rintro _ w4 ⟨rfl, hB4⟩
             have HB4 := Lib.hid (HB3.out.trans (hB4.mono HB3.out.size))
             have HGa4 := Lib.hid (below_heap hB4 HGa3.out)
             have HGb4 := Lib.hid (below_heap hB4 HGb3.out)
             obtain ⟨c0, c1, c2, c3⟩ := cells_box HGa4.out
             obtain ⟨d0, d1, d2, d3⟩ := cells_box HGb4.out
             clear hB4)
          | (go_at_call 20; (with_reducible refine (H1.out _ HB4.out).mono ?_); rintro _ w5 ⟨rfl, hB5⟩
             have HB5 := Lib.hid (HB4.out.trans (hB5.mono HB4.out.size))
             have HGa5 := Lib.hid (below_heap hB5 HGa4.out)
             have HGb5 := Lib.hid (below_heap hB5 HGb4.out)
             obtain ⟨e0, e1, e2, e3⟩ := cells_box HGa5.out
             clear hB5)
          | (go_at_call 20; (with_reducible refine (H2.out _ HB5.out).mono ?_); rintro _ w6 ⟨rfl, hB6⟩
             have HB6 := Lib.hid (HB5.out.trans (hB6.mono HB5.out.size))
             obtain ⟨f0, f1, f2, f3⟩ := cells_box (below_heap hB6 HGa5.out)
             obtain ⟨g0, g1, g2, g3⟩ := cells_box (below_heap hB6 HGb5.out)
             clear hB6)
          | (go_at_call 20; (with_reducible refine (H3.out _ HB6.out).mono ?_); rintro _ w7 ⟨rfl, hB7⟩
             have HB7 := Lib.hid (HB6.out.trans (hB7.mono HB6.out.size))
             clear hB7)
          | (go_at_call 9; refine (HA.out _ HB7.out).mono ?_; rintro _ w8 ⟨rfl, hB8⟩))
        go_ret
        exact ⟨rfl, HB7.out.trans (hB8.mono HB7.out.size)⟩
    · clear ht hk2
      go_wp2_with (first
        | (go_at_call 14; (with_reducible refine HSa.out.mono ?_); rintro _ w3 ⟨rfl, hB3⟩
           have HB3 := Lib.hid (HB2.out.trans (hB3.mono HB2.out.size))
           have HGa3 := Lib.hid (below_heap hB3 HGa2.out)
           have HGb3 := Lib.hid (below_heap hB3 HGb2.out)
           obtain ⟨b0, b1, b2, b3⟩ := cells_box HGb3.out
           clear hB3)
        | (go_at_call 14; (with_reducible refine (HSb.out _ HB3.out).mono ?_); rintro _ w4 ⟨rfl, hB4⟩
           have HB4 := Lib.hid (HB3.out.trans (hB4.mono HB3.out.size))
           have HGa4 := Lib.hid (below_heap hB4 HGa3.out)
           have HGb4 := Lib.hid (below_heap hB4 HGb3.out)
           obtain ⟨c0, c1, c2, c3⟩ := cells_box HGa4.out
           obtain ⟨d0, d1, d2, d3⟩ := cells_box HGb4.out
           clear hB4)
        | (go_at_call 20; (with_reducible refine (H1.out _ HB4.out).mono ?_); rintro _ w5 ⟨rfl, hB5⟩
           have HB5 := Lib.hid (HB4.out.trans (hB5.mono HB4.out.size))
           have HGa5 := Lib.hid (below_heap hB5 HGa4.out)
           have HGb5 := Lib.hid (below_heap hB5 HGb4.out)
           obtain ⟨e0, e1, e2, e3⟩ := cells_box HGa5.out
           clear hB5)
        | (go_at_call 20; (with_reducible refine (H2.out _ HB5.out).mono ?_); rintro _ w6 ⟨rfl, hB6⟩
           have HB6 := Lib.hid (HB5.out.trans (hB6.mono HB5.out.size))
           obtain ⟨f0, f1, f2, f3⟩ := cells_box (below_heap hB6 HGa5.out)
           obtain ⟨g0, g1, g2, g3⟩ := cells_box (below_heap hB6 HGb5.out)
           clear hB6)
        | (go_at_call 20; (with_reducible refine (H3.out _ HB6.out).mono ?_); rintro _ w7 ⟨rfl, hB7⟩
           have HB7 := Lib.hid (HB6.out.trans (hB7.mono HB6.out.size))
           clear hB7)
        | (go_at_call 9; refine (HA.out _ HB7.out).mono ?_; rintro _ w8 ⟨rfl, hB8⟩))
      go_ret
      exact ⟨rfl, HB7.out.trans (hB8.mono HB7.out.size)⟩
end Go.Proofs.YtaoeipbofhkkcaaGreatDoor
