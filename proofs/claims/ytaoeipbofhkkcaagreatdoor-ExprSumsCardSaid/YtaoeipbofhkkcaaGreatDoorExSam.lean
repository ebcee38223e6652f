/- What the document's Same of expressions does when it is called; the texts in the trees are short. -/
import Derived.Test.YtaoeipbofhkkcaaGreatDoorExRgtb
namespace Go.Proofs.YtaoeipbofhkkcaaGreatDoor
open Go.RowKit Go.Proofs.NumMath

mutual
def sameX : Ex → Ex → Bool
  | .mk o n s l, .mk o' n' s' l' => decide (o = o') && decide (n = n') && decide (s = s') && sameS l l'
def sameS : List Ex → List Ex → Bool
  | [], [] => true
  | [], _ :: _ => false
  | _ :: _, [] => false
  | e :: l, e' :: l' => sameX e e' && sameS l l'
end
mutual
theorem sameX_eq : ∀ a b : Ex, sameX a b = true ↔ a = b
  | .mk o n s l, .mk o' n' s' l' => by simp only [sameX, Bool.and_eq_true, decide_eq_true_eq, sameS_eq l l', Ex.mk.injEq, and_assoc]
theorem sameS_eq : ∀ a b : List Ex, sameS a b = true ↔ a = b
  | [], [] => by simp [sameS]
  | [], _ :: _ => by simp [sameS]
  | _ :: _, [] => by simp [sameS]
  | e :: l, e' :: l' => by simp only [sameS, Bool.and_eq_true, sameX_eq e e', sameS_eq l l', List.cons.injEq]
end
theorem sameS_nth {l l' : List Ex} (hl : l.length = l'.length) (h : ∀ (i : Nat) (x y : Ex), l[i]? = some x → l'[i]? = some y → x = y) : sameS l l' = true := by
  rw [sameS_eq]
  apply List.ext_getElem hl
  intro i h1 h2
  exact h i _ _ (List.getElem?_eq_getElem h1) (List.getElem?_eq_getElem h2)
theorem below2 (w : World) (o1 o2 : Obj) : Below w.heap.size w ((w.alloc o1).alloc o2) := (box_below w o1).alloc (box_below w o1).size o2
theorem cell2a (w : World) (u0 u1 u2 u3 : Value) (o2 : Obj) : ((w.alloc (Obj.cells #[u0, u1, u2, u3] 25)).alloc o2).cell? ⟨w.heap.size, 3, none⟩ = some u3 := keep_bel (box_below _ _) _ _ (box_at3 w u0 u1 u2 u3)
theorem cell2b (w : World) (o1 : Obj) (u0 u1 u2 u3 : Value) : ((w.alloc o1).alloc (Obj.cells #[u0, u1, u2, u3] 25)).cell? ⟨w.heap.size + 1, 3, none⟩ = some u3 := by
  have := box_at3 (w.alloc o1) u0 u1 u2 u3
  rwa [show (w.alloc o1).heap.size = w.heap.size + 1 by simp] at this
set_option maxHeartbeats 4000000 in
theorem same_step (o1 o2 : List UInt8) (n1 n2 : Nat) (s1 s2 : List UInt8) (l1 l2 : List Ex) (v1 v2 : Value) (w : World) (hk1 : l1.length < 140737488355328) (hk2 : l2.length < 140737488355328)
    (hv1 : ExV w v1 (.mk o1 n1 s1 l1)) (hv2 : ExV w v2 (.mk o2 n2 s2 l2))
    (ih : ∀ (e1 e2 : Ex) (v1 v2 : Value) (w : World), e1 ∈ l1 → e2 ∈ l2 → ExV w v1 e1 → ExV w v2 e2 → Calls Tryz.prog 17 #[v1, v2] w fun r w' => r = .returned (.bool (sameX e1 e2)) ∧ Below w.heap.size w w') :
    Calls Tryz.prog 17 #[v1, v2] w fun r w' => r = .returned (.bool (sameX (.mk o1 n1 s1 l1) (.mk o2 n2 s2 l2))) ∧ Below w.heap.size w w' := by
  obtain ⟨hn1, p1, q1, sp1, c1, rfl, hp1, hl1⟩ := hv1
  obtain ⟨hn2, p2, q2, sp2, c2, rfl, hp2, hl2⟩ := hv2
  obtain ⟨X, hX⟩ : ∃ X, sameX (.mk o1 n1 s1 l1) (.mk o2 n2 s2 l2) = X := ⟨_, rfl⟩
  rw [hX]
  simp only [sameX] at hX
  have HX := Lib.hid hX
  clear hX
  by_cases ho : o1 = o2
  case neg =>
    obtain rfl : X = false := by rw [← HX.out]; simp [ho]
    have f1 : (o1 == o2) = false := by rw [beq_eq_false_iff_ne]; exact ho
    have f2 : (o1 != o2) = true := by rw [bne_iff_ne]; exact ho
    go_enter Tryz.func17, Tryz.ntmps17
    go_wp2
    go_ret
    exact ⟨rfl, below2 _ _ _⟩
  subst ho
  by_cases hn : n1 = n2
  case neg =>
    obtain rfl : X = false := by rw [← HX.out]; simp [hn]
    have f1 : ((n1 : Int) == (n2 : Int)) = false := by rw [beq_eq_false_iff_ne]; omega
    have f2 : ((n1 : Int) != (n2 : Int)) = true := by rw [bne_iff_ne]; omega
    go_enter Tryz.func17, Tryz.ntmps17
    go_wp2
    go_ret
    exact ⟨rfl, below2 _ _ _⟩
  subst hn
  by_cases hs : s1 = s2
  case neg =>
    obtain rfl : X = false := by rw [← HX.out]; simp [hs]
    have f1 : (s1 == s2) = false := by rw [beq_eq_false_iff_ne]; exact hs
    have f2 : (s1 != s2) = true := by rw [bne_iff_ne]; exact hs
    go_enter Tryz.func17, Tryz.ntmps17
    go_wp2
    go_ret
    exact ⟨rfl, below2 _ _ _⟩
  subst hs
  obtain ⟨m1, hm1⟩ : ∃ m, l1.length = m := ⟨_, rfl⟩
  obtain ⟨m2, hm2⟩ : ∃ m, l2.length = m := ⟨_, rfl⟩
  rw [hm1] at hk1 hp1 ⊢
  rw [hm2] at hk2 hp2 ⊢
  by_cases hm : m1 = m2
  case neg =>
    obtain rfl : X = false := by
      rw [← HX.out, Bool.eq_false_iff]
      intro h
      simp only [Bool.and_eq_true, sameS_eq] at h
      exact hm (by rw [← hm1, ← hm2, h.2])
    have f1 : ((m1 : Int) == (m2 : Int)) = false := by rw [beq_eq_false_iff_ne]; omega
    have f2 : ((m1 : Int) != (m2 : Int)) = true := by rw [bne_iff_ne]; omega
    clear hm1 hm2
    go_enter Tryz.func17, Tryz.ntmps17
    go_wp2
    go_ret
    exact ⟨rfl, below2 _ _ _⟩
  subst hm
  have H1 := Lib.hid hm1
  have H2 := Lib.hid hm2
  have HL1 := Lib.hid hl1
  have HL2 := Lib.hid hl2
  have HI := Lib.hid ih
  clear hm1 hm2 hl1 hl2 ih
  go_enter Tryz.func17, Tryz.ntmps17
  go_wp2
  go_loopw [5] (fun i wr => ∃ k : Nat, k ≤ m1 ∧ i = .int .i64 k ∧ Below w.heap.size w wr ∧ Hid (wr.cell? ⟨w.heap.size, 3, none⟩ = some (.slice sp1 m1 c1)) ∧ Hid (wr.cell? ⟨w.heap.size + 1, 3, none⟩ = some (.slice sp2 m1 c2)) ∧ Hid (∀ (i : Nat) (x y : Ex), i < k → l1[i]? = some x → l2[i]? = some y → x = y)) (fun i _ => m1 - (intOf i).toNat)
  case atStart => exact ⟨0, by omega, rfl, below2 _ _ _, Lib.hid (cell2a _ _ _ _ _ _), Lib.hid (cell2b _ _ _ _ _ _), Lib.hid (fun i x y hi => absurd hi (by omega))⟩
  case round =>
    obtain ⟨k, hk, rfl, hB, HC1, HC2, HQ⟩ := hrel
    have g1 := HC1.out
    have g2 := HC2.out
    by_cases hlt : k < m1
    · obtain rfl := hp1 (by omega)
      obtain rfl := hp2 (by omega)
      obtain ⟨e1, he1⟩ : ∃ e, l1[k]? = some e := ⟨_, List.getElem?_eq_getElem (by rw [H1.out]; exact hlt)⟩
      obtain ⟨e2, he2⟩ : ∃ e, l2[k]? = some e := ⟨_, List.getElem?_eq_getElem (by rw [H2.out]; exact hlt)⟩
      obtain ⟨v0, v1, v2, v3, x0, x1, x2, x3, hev⟩ := (CellsAt.keep (keep_bel hB) _ _ _ (ListAt.at l1 p1 q1 k e1 HL1.out he1)).val
      obtain ⟨u0, u1, u2, u3, y0, y1, y2, y3, hev2⟩ := (CellsAt.keep (keep_bel hB) _ _ _ (ListAt.at l2 p2 q2 k e2 HL2.out he2)).val
      have hi := HI.out e1 e2 _ _ wr.drew (List.mem_of_getElem? he1) (List.mem_of_getElem? he2) (ExV.keep (W := wr) (W' := wr.drew) (fun _ _ h => h) hev) (ExV.keep (W := wr) (W' := wr.drew) (fun _ _ h => h) hev2)
      have HE1 := Lib.hid he1
      have HE2 := Lib.hid he2
      clear he1 he2 hev hev2
      obtain ⟨Y, hY⟩ : ∃ Y, sameX e1 e2 = Y := ⟨_, rfl⟩
      rw [hY] at hi
      have HY := Lib.hid hY
      clear hY
      cases Y
      · go_wp2
        first | (go_region_with (go_at_call 17; refine hi.mono ?_; rintro r w2 ⟨rfl, hB2⟩)) | fail
        all_goals
          have hB3 := hB.drew.trans (hB2.mono (show w.heap.size ≤ wr.drew.heap.size from hB.size))
          obtain rfl : X = false := by
            rw [← HX.out, Bool.eq_false_iff]
            intro h
            simp only [Bool.and_eq_true, sameS_eq] at h
            have hh := HE1.out
            rw [h.2, HE2.out] at hh
            have := (sameX_eq e1 e2).2 (Option.some.inj hh).symm
            rw [HY.out] at this
            cases this
          clear hB2 hi hB
          go_wp2
          go_ret
          exact ⟨rfl, by first | exact hB3 | exact hB3.drew⟩
      · go_wp2
        first | (go_region_with (go_at_call 17; refine hi.mono ?_; rintro r w2 ⟨rfl, hB2⟩)) | fail
        all_goals
          have hB3 := hB.drew.trans (hB2.mono (show w.heap.size ≤ wr.drew.heap.size from hB.size))
          have k1 := keep_bel hB2 _ _ (show wr.drew.cell? ⟨w.heap.size, 3, none⟩ = _ from HC1.out)
          have k2 := keep_bel hB2 _ _ (show wr.drew.cell? ⟨w.heap.size + 1, 3, none⟩ = _ from HC2.out)
          have K1 := Lib.hid k1
          have K2 := Lib.hid k2
          clear hB2 hi hB k1 k2
          go_wp2
          refine ⟨⟨k + 1, by omega, by go_num, by first | exact hB3 | exact hB3.drew, Lib.hid K1.out, Lib.hid K2.out, Lib.hid fun i x y hi hx hy => ?_⟩, by simp [intOf]; omega⟩
          by_cases e : i = k
          · rw [e, HE1.out] at hx
            rw [e, HE2.out] at hy
            rw [← Option.some.inj hx, ← Option.some.inj hy]
            exact (sameX_eq e1 e2).1 HY.out
          · exact HQ.out i x y (by omega) hx hy
    · obtain rfl : k = m1 := by omega
      obtain rfl : X = true := by
        rw [← HX.out]
        simp only [decide_true, Bool.true_and]
        exact sameS_nth (by rw [H1.out, H2.out]) (fun i x y hx hy => HQ.out i x y (by rw [← H1.out]; exact (List.getElem?_eq_some_iff.1 hx).1) hx hy)
      go_wp2
      go_ret
      exact ⟨rfl, hB⟩
theorem same_ind : ∀ (N : Nat) (e1 e2 : Ex), SizeOf.sizeOf e1 ≤ N → ∀ (v1 v2 : Value) (w : World), shortX e1 = true → shortX e2 = true → ExV w v1 e1 → ExV w v2 e2 →
    Calls Tryz.prog 17 #[v1, v2] w fun r w' => r = .returned (.bool (sameX e1 e2)) ∧ Below w.heap.size w w'
  | 0, .mk op n name sub, _, h, _, _, _, _, _, _, _ => by simp at h
  | N + 1, .mk o1 n1 s1 l1, .mk o2 n2 s2 l2, h, v1, v2, w, hs1, hs2, hv1, hv2 => by
    simp only [shortX, Bool.and_eq_true, decide_eq_true_eq] at hs1 hs2
    refine same_step o1 o2 n1 n2 s1 s2 l1 l2 v1 v2 w hs1.1.2 hs2.1.2 hv1 hv2 fun e1 e2 v1 v2 w he1 he2 hev1 hev2 => ?_
    have h1 : SizeOf.sizeOf e1 ≤ N := by
      have := List.sizeOf_lt_of_mem he1
      simp at h
      omega
    exact same_ind N e1 e2 h1 v1 v2 w (shortS_mem hs1.2 he1) (shortS_mem hs2.2 he2) hev1 hev2
theorem Same_any (v1 v2 : Value) (e1 e2 : Ex) (w : World) (hs1 : shortX e1 = true) (hs2 : shortX e2 = true) (hv1 : ExV w v1 e1) (hv2 : ExV w v2 e2) :
    Calls Tryz.prog 17 #[v1, v2] w fun r w' => r = .returned (.bool (sameX e1 e2)) ∧ Below w.heap.size w w' := same_ind _ e1 e2 (Nat.le_refl _) v1 v2 w hs1 hs2 hv1 hv2
end Go.Proofs.YtaoeipbofhkkcaaGreatDoor
