/- What the program's Same of expressions does when it is called; the texts in the trees are short. -/
import Derived.Test.YtaoeipbofhkkcaaGreatDoorExSam
namespace Go.Proofs.YtaoeipbofhkkcaaGreatDoor
open Go.RowKit Go.Proofs.NumMath

set_option maxHeartbeats 4000000 in
theorem eqf_any (l1 l2 : List Ex) (b1 o1 b2 o2 c1 c2 : Nat) (sp1 sp2 : Option Addr) (w : World) (hk1 : l1.length < 140737488355328) (hk2 : l2.length < 140737488355328)
    (hp1 : 0 < l1.length → sp1 = some ⟨b1, o1, none⟩) (hp2 : 0 < l2.length → sp2 = some ⟨b2, o2, none⟩) (hl1 : ListAt w l1 b1 o1) (hl2 : ListAt w l2 b2 o2)
    (ih : ∀ (e1 e2 : Ex) (v1 v2 : Value) (w : World), e1 ∈ l1 → e2 ∈ l2 → ExV w v1 e1 → ExV w v2 e2 → Calls Tryz.prog 20 #[v1, v2] w fun r w' => r = .returned (.bool (sameX e1 e2)) ∧ Below w.heap.size w w') :
    Calls Tryz.prog 35 #[.slice sp1 l1.length c1, .slice sp2 l2.length c2, .func (.func 20) #[] #[]] w fun r w' => r = .returned (.bool (sameS l1 l2)) ∧ Below w.heap.size w w' := by
  obtain ⟨X, hX⟩ : ∃ X, sameS l1 l2 = X := ⟨_, rfl⟩
  rw [hX]
  have HX := Lib.hid hX
  clear hX
  obtain ⟨m1, hm1⟩ : ∃ m, l1.length = m := ⟨_, rfl⟩
  obtain ⟨m2, hm2⟩ : ∃ m, l2.length = m := ⟨_, rfl⟩
  rw [hm1] at hk1 hp1 ⊢
  rw [hm2] at hk2 hp2 ⊢
  by_cases hm : m1 = m2
  case neg =>
    obtain rfl : X = false := by
      rw [← HX.out, Bool.eq_false_iff]
      intro h
      rw [sameS_eq] at h
      exact hm (by rw [← hm1, ← hm2, h])
    have f1 : ((m1 : Int) == (m2 : Int)) = false := by rw [beq_eq_false_iff_ne]; omega
    have f2 : ((m1 : Int) != (m2 : Int)) = true := by rw [bne_iff_ne]; omega
    clear hm1 hm2
    go_enter Tryz.func35, Tryz.ntmps35
    go_wp2
    go_ret
    exact ⟨rfl, Below.refl _ _⟩
  subst hm
  have H1 := Lib.hid hm1
  have H2 := Lib.hid hm2
  have HL1 := Lib.hid hl1
  have HL2 := Lib.hid hl2
  have HI := Lib.hid ih
  have f2 : ((m1 : Int) != (m1 : Int)) = false := by simp
  clear hm1 hm2 hl1 hl2 ih
  go_enter Tryz.func35, Tryz.ntmps35
  go_wp2
  go_loopw [17] (fun i wr => ∃ k : Nat, k ≤ m1 ∧ i = .int .i64 k ∧ Hid (Below w.heap.size w wr) ∧ Hid (∀ (i : Nat) (x y : Ex), i < k → l1[i]? = some x → l2[i]? = some y → x = y)) (fun i _ => m1 - (intOf i).toNat)
  case atStart => exact ⟨0, by omega, rfl, Lib.hid (Below.refl _ _), Lib.hid (fun i x y hi => absurd hi (by omega))⟩
  case round =>
    obtain ⟨k, hk, rfl, hB, HQ⟩ := hrel
    by_cases hlt : k < m1
    · obtain rfl := hp1 (by omega)
      obtain rfl := hp2 (by omega)
      obtain ⟨e1, he1⟩ : ∃ e, l1[k]? = some e := ⟨_, List.getElem?_eq_getElem (by rw [H1.out]; exact hlt)⟩
      obtain ⟨e2, he2⟩ : ∃ e, l2[k]? = some e := ⟨_, List.getElem?_eq_getElem (by rw [H2.out]; exact hlt)⟩
      obtain ⟨p0, pn, ps, pl⟩ := e1
      obtain ⟨q0, qn, qs, ql⟩ := e2
      obtain ⟨x0, x1, x2, x3, xb, xo, xsp, xc, x4, x5, x6⟩ := CellsAt.keep (keep_bel hB.out) _ _ _ (ListAt.at l1 b1 o1 k _ HL1.out he1)
      obtain ⟨y0, y1, y2, y3, yb, yo, ysp, yc, y4, y5, y6⟩ := CellsAt.keep (keep_bel hB.out) _ _ _ (ListAt.at l2 b2 o2 k _ HL2.out he2)
      have hi : ∀ W, Below wr.heap.size wr W → Calls Tryz.prog 20 #[.agg #[.string ⟨p0.toArray⟩, .int .u16 (pn : Nat), .string ⟨ps.toArray⟩, .slice xsp pl.length xc], .agg #[.string ⟨q0.toArray⟩, .int .u16 (qn : Nat), .string ⟨qs.toArray⟩, .slice ysp ql.length yc]] W fun r w' => r = .returned (.bool (sameX (.mk p0 pn ps pl) (.mk q0 qn qs ql))) ∧ Below W.heap.size W w' := fun W hW =>
        HI.out _ _ _ _ W (List.mem_of_getElem? he1) (List.mem_of_getElem? he2) (ExV.below hW ⟨x2, xb, xo, xsp, xc, rfl, x5, x6⟩) (ExV.below hW ⟨y2, yb, yo, ysp, yc, rfl, y5, y6⟩)
      obtain ⟨pm, hpm⟩ : ∃ l', pl.length = l' := ⟨_, rfl⟩
      obtain ⟨qm, hqm⟩ : ∃ l', ql.length = l' := ⟨_, rfl⟩
      rw [hpm] at x4 hi
      rw [hqm] at y4 hi
      have HE1 := Lib.hid he1
      have HE2 := Lib.hid he2
      obtain ⟨Y, hY⟩ : ∃ Y, sameX (.mk p0 pn ps pl) (.mk q0 qn qs ql) = Y := ⟨_, rfl⟩
      rw [hY] at hi
      have HY := Lib.hid hY
      have HT := Lib.hid hi
      clear hY he1 he2 x5 x6 y5 y6 hpm hqm hi
      have hz := keep_bel (box_below wr (Obj.cells #[Value.string ⟨p0.toArray⟩, Value.int .u16 pn, Value.string ⟨ps.toArray⟩, Value.slice xsp pm xc] 25))
      have z0 := hz _ _ y0
      have z1 := hz _ _ y1
      have z2 := hz _ _ y3
      have z3 := hz _ _ y4
      clear hz
      cases Y
      · go_wp2_with (go_at_call 20; refine (HT.out _ (below2 _ _ _)).mono ?_; rintro r w3 ⟨rfl, hB3⟩)
        obtain rfl : X = false := by
          rw [← HX.out, Bool.eq_false_iff]
          intro h
          rw [sameS_eq] at h
          have hh := HE1.out
          rw [h, HE2.out] at hh
          have := (sameX_eq (.mk p0 pn ps pl) (.mk q0 qn qs ql)).2 (Option.some.inj hh).symm
          rw [HY.out] at this
          cases this
        go_ret
        exact ⟨rfl, hB.out.trans (((below2 wr _ _).trans (hB3.mono (below2 wr _ _).size)).mono hB.out.size)⟩
      · go_wp2_with (go_at_call 20; refine (HT.out _ (below2 _ _ _)).mono ?_; rintro r w3 ⟨rfl, hB3⟩)
        refine ⟨⟨k + 1, by omega, by go_num, Lib.hid (hB.out.trans (((below2 wr _ _).trans (hB3.mono (below2 wr _ _).size)).mono hB.out.size)), Lib.hid fun i x y hi hx hy => ?_⟩, by simp [intOf]; omega⟩
        by_cases e : i = k
        · rw [e, HE1.out] at hx
          rw [e, HE2.out] at hy
          rw [← Option.some.inj hx, ← Option.some.inj hy]
          exact (sameX_eq _ _).1 HY.out
        · exact HQ.out i x y (by omega) hx hy
    · obtain rfl : k = m1 := by omega
      obtain rfl : X = true := by
        rw [← HX.out]
        exact sameS_nth (by rw [H1.out, H2.out]) (fun i x y hx hy => HQ.out i x y (by rw [← H1.out]; exact (List.getElem?_eq_some_iff.1 hx).1) hx hy)
      go_wp2
      go_ret
      exact ⟨rfl, hB.out⟩
set_option maxHeartbeats 4000000 in
theorem psame_step (o1 o2 : List UInt8) (n1 n2 : Nat) (s1 s2 : List UInt8) (l1 l2 : List Ex) (v1 v2 : Value) (w : World) (hk1 : l1.length < 140737488355328) (hk2 : l2.length < 140737488355328)
    (hv1 : ExV w v1 (.mk o1 n1 s1 l1)) (hv2 : ExV w v2 (.mk o2 n2 s2 l2))
    (ih : ∀ (e1 e2 : Ex) (v1 v2 : Value) (w : World), e1 ∈ l1 → e2 ∈ l2 → ExV w v1 e1 → ExV w v2 e2 → Calls Tryz.prog 20 #[v1, v2] w fun r w' => r = .returned (.bool (sameX e1 e2)) ∧ Below w.heap.size w w') :
    Calls Tryz.prog 20 #[v1, v2] w fun r w' => r = .returned (.bool (sameX (.mk o1 n1 s1 l1) (.mk o2 n2 s2 l2))) ∧ Below w.heap.size w w' := by
  obtain ⟨hn1, p1, q1, sp1, c1, rfl, hp1, hl1⟩ := hv1
  obtain ⟨hn2, p2, q2, sp2, c2, rfl, hp2, hl2⟩ := hv2
  have hq : ∀ W, Below w.heap.size w W → Calls Tryz.prog 35 #[.slice sp1 l1.length c1, .slice sp2 l2.length c2, .func (.func 20) #[] #[]] W fun r w' => r = .returned (.bool (sameS l1 l2)) ∧ Below W.heap.size W w' :=
    fun W hW => eqf_any l1 l2 p1 q1 p2 q2 c1 c2 sp1 sp2 W hk1 hk2 hp1 hp2 (ListAt.keep (keep_bel hW) _ _ _ hl1) (ListAt.keep (keep_bel hW) _ _ _ hl2) ih
  obtain ⟨X, hX⟩ : ∃ X, sameX (.mk o1 n1 s1 l1) (.mk o2 n2 s2 l2) = X := ⟨_, rfl⟩
  rw [hX]
  simp only [sameX] at hX
  obtain ⟨Y, hY⟩ : ∃ Y, sameS l1 l2 = Y := ⟨_, rfl⟩
  rw [hY] at hX hq
  have HX := Lib.hid hX
  have HQ := Lib.hid hq
  clear hX hY hq hl1 hl2 ih hp1 hp2
  by_cases ho : o1 = o2
  case neg =>
    obtain rfl : X = false := by rw [← HX.out]; simp [ho]
    have f1 : (o1 == o2) = false := by rw [beq_eq_false_iff_ne]; exact ho
    go_enter Tryz.func20, Tryz.ntmps20
    go_wp2
    go_ret
    exact ⟨rfl, below2 _ _ _⟩
  subst ho
  by_cases hn : n1 = n2
  case neg =>
    obtain rfl : X = false := by rw [← HX.out]; simp [hn]
    have f1 : ((n1 : Int) == (n2 : Int)) = false := by rw [beq_eq_false_iff_ne]; omega
    go_enter Tryz.func20, Tryz.ntmps20
    go_wp2
    go_ret
    exact ⟨rfl, below2 _ _ _⟩
  subst hn
  by_cases hs : s1 = s2
  case neg =>
    obtain rfl : X = false := by rw [← HX.out]; simp [hs]
    have f1 : (s1 == s2) = false := by rw [beq_eq_false_iff_ne]; exact hs
    go_enter Tryz.func20, Tryz.ntmps20
    go_wp2
    go_ret
    exact ⟨rfl, below2 _ _ _⟩
  subst hs
  obtain rfl : X = Y := by rw [← HX.out]; simp
  have f1 : (o1 == o1) = true := by simp
  have f2 : ((n1 : Int) == (n1 : Int)) = true := by simp
  have f3 : (s1 == s1) = true := by simp
  go_enter Tryz.func20, Tryz.ntmps20
  go_wp2_with (go_at_call 35; refine (HQ.out _ (below2 _ _ _)).mono ?_; rintro r w3 ⟨rfl, hB3⟩)
  go_ret
  exact ⟨rfl, (below2 w _ _).trans (hB3.mono (below2 w _ _).size)⟩
theorem psame_ind : ∀ (N : Nat) (e1 e2 : Ex), SizeOf.sizeOf e1 ≤ N → ∀ (v1 v2 : Value) (w : World), shortX e1 = true → shortX e2 = true → ExV w v1 e1 → ExV w v2 e2 →
    Calls Tryz.prog 20 #[v1, v2] w fun r w' => r = .returned (.bool (sameX e1 e2)) ∧ Below w.heap.size w w'
  | 0, .mk op n name sub, _, h, _, _, _, _, _, _, _ => by simp at h
  | N + 1, .mk o1 n1 s1 l1, .mk o2 n2 s2 l2, h, v1, v2, w, hs1, hs2, hv1, hv2 => by
    simp only [shortX, Bool.and_eq_true, decide_eq_true_eq] at hs1 hs2
    refine psame_step o1 o2 n1 n2 s1 s2 l1 l2 v1 v2 w hs1.1.2 hs2.1.2 hv1 hv2 fun e1 e2 v1 v2 w he1 he2 hev1 hev2 => ?_
    have h1 : SizeOf.sizeOf e1 ≤ N := by
      have := List.sizeOf_lt_of_mem he1
      simp at h
      omega
    exact psame_ind N e1 e2 h1 v1 v2 w (shortS_mem hs1.2 he1) (shortS_mem hs2.2 he2) hev1 hev2
theorem pSame_any (v1 v2 : Value) (e1 e2 : Ex) (w : World) (hs1 : shortX e1 = true) (hs2 : shortX e2 = true) (hv1 : ExV w v1 e1) (hv2 : ExV w v2 e2) :
    Calls Tryz.prog 20 #[v1, v2] w fun r w' => r = .returned (.bool (sameX e1 e2)) ∧ Below w.heap.size w w' := psame_ind _ e1 e2 (Nat.le_refl _) v1 v2 w hs1 hs2 hv1 hv2
end Go.Proofs.YtaoeipbofhkkcaaGreatDoor
