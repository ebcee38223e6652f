/- What ImageSame does when it is called: it returns true, and writes nothing that was there. -/
import Derived.Test.YtjodidkjpdjmoaaDoorPlay
import Derived.Test.YtjodidkjpdjmoaaDoorRisesWalk
namespace Go.Proofs.YtjodidkjpdjmoaaDoor
open Go.RowKit

theorem lst_none : lst (fun _ => none) = [] := seg_none fun _ _ _ => rfl
set_option maxRecDepth 100000 in
set_option maxHeartbeats 2000000 in
theorem same_nil {W : World} (q : Nat) (M : Nat → Nat) (hI : Img W q (fun _ => none) M) :
    Calls Tryd.prog 20 #[.pointer none, .pointer (some ⟨q, 0, none⟩)] W fun e w' => e = .returned (.bool true) ∧ w' = W := by
  have h1 : Calls Tryd.prog 11 #[.pointer none] W fun e w' => e = .returned (.int .i64 0) ∧ w' = W := len_any none [] W (.inl ⟨rfl, rfl⟩)
  have h2 : Calls Tryd.prog 11 #[.pointer (some ⟨q, 0, none⟩)] W fun e w' => e = .returned (.int .i64 0) ∧ w' = W := by
    have := len_img q _ M W hI 0 (by rw [lst_none]; rfl)
    exact this
  go_enter Tryd.func20, Tryd.ntmps20
  go_wp2_with (first | (go_at_call_of 11 (Value.pointer none); refine h1.mono ?_; rintro e w' ⟨rfl, rfl⟩) | (go_at_call 11; refine h2.mono ?_; rintro e w' ⟨rfl, rfl⟩))
  go_ret
  exact ⟨rfl, rfl⟩

/-- What ImageSame's last row asks its callees, in whatever world behind W it comes to them. -/
theorem same_facts {w W1 W : World} (hT : Tab w) (hB1 : Below w.heap.size w W1) {b1 b2 : Nat} {g1 g2 : Nat → Option Int} {M1 M2 : Nat → Nat} {v1 v2 : Value} (hI1 : Img W1 b1 g1 M1) (hE1 : EntsVal W1 v1 (lst g1))
    (hB2 : Below W1.heap.size W1 W) (hI2 : Img W b2 g2 M2) (hE2 : EntsVal W v2 (lst g2)) : ∃ c : Bool,
    Hid (∀ V, Below W.heap.size W V → Calls Tryd.prog 20 #[.pointer (some ⟨b1, 0, none⟩), .pointer (some ⟨b2, 0, none⟩)] V fun e V' => e = .returned (.bool c) ∧ Below W.heap.size W V') ∧
    Hid (∀ V, Below W.heap.size W V → Calls Tryd.prog 12 #[v1, v2] V fun e V' => e = .returned (.bool c) ∧ Below W.heap.size W V') ∧
    Hid (∀ V, Below W.heap.size W V → Calls Tryd.prog 20 #[.pointer (some ⟨b1, 0, none⟩), .pointer (some ⟨b1, 0, none⟩)] V fun e V' => e = .returned (.bool true) ∧ Below W.heap.size W V') ∧
    Hid (∀ V, Below W.heap.size W V → Calls Tryd.prog 21 #[] V fun e V' => ∃ q M, e = .returned (.pointer (some ⟨q, 0, none⟩)) ∧ Img V' q (fun _ => none) M ∧ Below W.heap.size W V') ∧
    Hid (∀ V, Below W.heap.size W V → Calls Tryd.prog 9 #[] V fun e V' => e = .returned (.bool true) ∧ Below W.heap.size W V') ∧ Below W.heap.size W W := by
  have hI1' := hI1.below hI1.lt hB2
  have hE1' := hE1.keep (keep_below hB2)
  have hT' := tab_at hT (below_on hB1 hB2)
  refine ⟨sameL (lst g1) (lst g2), fun V hV => ?_, fun V hV => ?_, fun V hV => ?_, fun V hV => ?_, fun V hV => ?_, Below.refl _ _⟩
  · exact (same_img (hI1'.below hI1'.lt hV) (hI2.below hI2.lt hV)).mono fun e V' ⟨h, k, hk⟩ => ⟨h, by rw [hk]; exact below_drewN hV k⟩
  · exact (rsame_any v1 v2 _ _ V (lst_length_le _) (lst_length_le _) (hE1'.keep (keep_below hV)).read (hE2.keep (keep_below hV)).read).mono fun e V' ⟨h, hk⟩ => ⟨h, below_on hV hk⟩
  · exact (same_img (hI1'.below hI1'.lt hV) (hI1'.below hI1'.lt hV)).mono fun e V' ⟨h, k, hk⟩ => ⟨by rw [h, sameL_self], by rw [hk]; exact below_drewN hV k⟩
  · exact (new_img V).mono fun e V' ⟨h, hI, hB⟩ => ⟨_, _, h, hI, below_on hV hB⟩
  · exact (alive_at hT' hV).mono fun e V' ⟨h, hB⟩ => ⟨h, below_on hV hB⟩

set_option maxRecDepth 100000 in
set_option maxHeartbeats 4000000 in
theorem imageSame_walk (v : Value) (n : Nat) (A : Nat → Int) (L : Nat → Nat) (Z : Nat → Nat → Int) {w : World} (hO : Ops w v n A L Z) (u : Value) (m : Nat) (A' : Nat → Int) (L' : Nat → Nat) (Z' : Nat → Nat → Int) (hO' : Ops w u m A' L' Z') (hT : Tab w) :
    Calls Tryd.prog 5 #[v, u] w fun e w' => e = .returned (.bool true) ∧ Below w.heap.size w w' := by
  have hb0 := Below.refl w.heap.size w
  obtain ⟨sa, cap, rfl⟩ : ∃ sa cap, v = .slice sa n cap := by obtain ⟨_, _, sa, cap, h, _⟩ := hO; exact ⟨sa, cap, h⟩
  obtain ⟨ta, tcap, rfl⟩ : ∃ sa cap, u = .slice sa m cap := by obtain ⟨_, _, sa, cap, h, _⟩ := hO'; exact ⟨sa, cap, h⟩
  cases hl : lightB n L with
  | false =>
    have h1 := light_at hl hO hb0
    have hA := alive_at hT hb0
    go_enter Tryd.func5, Tryd.ntmps5
    go_wp2_with (first | (go_at_call 8; refine h1.mono ?_; rintro e w' ⟨rfl, rfl⟩) | (go_at_call 9; refine hA.mono ?_; rintro e W1 ⟨rfl, hB1⟩))
    go_ret
    exact ⟨rfl, hB1⟩
  | true =>
    cases hl' : lightB m L' with
    | false =>
      have h1 := light_at hl hO hb0
      have h2 := light_at hl' hO' hb0
      have hA := alive_at hT hb0
      go_enter Tryd.func5, Tryd.ntmps5
      go_wp2_with (first | (go_at_call_of 8 (Value.slice sa n cap); refine h1.mono ?_; rintro e w' ⟨rfl, rfl⟩) | (go_at_call 8; refine h2.mono ?_; rintro e w' ⟨rfl, rfl⟩) | (go_at_call 9; refine hA.mono ?_; rintro e W1 ⟨rfl, hB1⟩))
      go_ret
      exact ⟨rfl, hB1⟩
    | true =>
      have h1 := light_at hl hO hb0
      have h2 := light_at hl' hO' hb0
      obtain ⟨hn30, hL⟩ := light_true hl
      obtain ⟨hm30, hL'⟩ := light_true hl'
      have p1 : Calls Tryd.prog 10 #[.slice sa n cap] w fun e W => ∃ b v' g M, e = .returned (.tuple #[.pointer (some ⟨b, 0, none⟩), v', .bool true]) ∧ Img W b g M ∧ EntsVal W v' (lst g) ∧ Below w.heap.size w W :=
        (play_any _ n A L Z hL hn30 hO).mono fun e W ⟨v', g, M, h⟩ => ⟨_, v', g, M, h⟩
      have p2 : ∀ W, Below w.heap.size w W → Calls Tryd.prog 10 #[.slice ta m tcap] W fun e V => ∃ b v' g M, e = .returned (.tuple #[.pointer (some ⟨b, 0, none⟩), v', .bool true]) ∧ Img V b g M ∧ EntsVal V v' (lst g) ∧ Below W.heap.size W V := fun W hW =>
        (play_any _ m A' L' Z' hL' hm30 (hO'.keep (keep_below hW))).mono fun e V ⟨v', g, M, h⟩ => ⟨_, v', g, M, h⟩
      have P2 := Hid.mk' p2
      clear p2 hL hL'
      go_enter Tryd.func5, Tryd.ntmps5
      go_wp2_with (first
        | (go_at_call_of 8 (Value.slice sa n cap); refine h1.mono ?_; rintro e w' ⟨rfl, rfl⟩)
        | (go_at_call 8; refine h2.mono ?_; rintro e w' ⟨rfl, rfl⟩)
        | (go_at_call_of 10 (Value.slice sa n cap); refine p1.mono ?_; rintro e W1 ⟨b1, v1, g1, M1, rfl, hI1, hE1, hB1⟩)
        | (go_at_call 10; refine (P2.out _ hB1).mono ?_; rintro e W2 ⟨b2, v2, g2, M2, rfl, hI2, hE2, hB2⟩; obtain ⟨c, H1, H2, H3, H4, H5, hV⟩ := same_facts hT hB1 hI1 hE1 hB2 hI2 hE2)
        | (go_at_call_of 20 (Value.pointer none); refine (same_nil _ _ hN).mono ?_; rintro e V' ⟨rfl, rfl⟩)
        | (go_at_call_of 20 (Value.pointer (some ⟨b2, 0, none⟩)); refine (H1.out _ hV).mono ?_; rintro e V' ⟨rfl, hV1⟩)
        | (go_at_call 12; refine (H2.out _ hV1).mono ?_; rintro e V' ⟨rfl, hV2⟩)
        | (go_at_call 20; refine (H3.out _ hV2).mono ?_; rintro e V' ⟨rfl, hV3⟩)
        | (go_at_call 21; refine (H4.out _ hV3).mono ?_; rintro e V' ⟨q, M0, rfl, hN, hV4⟩)
        | (go_at_call 9; refine (H5.out _ hV4).mono ?_; rintro e V' ⟨rfl, hV5⟩))
      go_ret
      exact ⟨rfl, below_on (below_on hB1 hB2) hV5⟩
end Go.Proofs.YtjodidkjpdjmoaaDoor
