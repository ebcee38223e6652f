import Derived.Test.YtjodidkjpdjmoaaDoorRsame
namespace Go.Proofs.YtjodidkjpdjmoaaDoor
open Go.RowKit

/-- A list lies apart from an image, and so stands behind a Put. -/
theorem EntsVal.put {W W' : World} {b : Nat} {g : Nat → Option Int} {M : Nat → Nat} {v : Value} {xs : List Ent} (h : EntsVal W v xs) (hI : Img W b g M) (hg : W.grownBy W' (some b)) : EntsVal W' v xs := by
  rcases h with h | ⟨gb, cap, h1, h2, h3⟩
  · exact .inl h
  · refine .inr ⟨gb, cap, h1, h2, fun i x hx => ?_⟩
    have hne : gb ≠ b := by
      rintro rfl
      have h0 := hI.mks.marks 0 (by omega)
      obtain ⟨y, hy⟩ : ∃ y, xs[0]? = some y := by
        cases xs with
        | nil => simp at hx
        | cons y _ => exact ⟨y, rfl⟩
      obtain ⟨c, _⟩ := h3 0 y hy
      rw [Nat.zero_mul] at c
      rw [h0] at c
      cases c
    obtain ⟨c1, c2⟩ := h3 i x hx
    exact ⟨hg.cell c1 (by intro e; injection e with e; exact hne e), hg.cell c2 (by intro e; injection e with e; exact hne e)⟩

set_option maxRecDepth 100000 in
set_option maxHeartbeats 4000000 in
theorem play_any (v : Value) (n : Nat) (A : Nat → Int) (L : Nat → Nat) (Z : Nat → Nat → Int) {w : World} (hL : ∀ k, k < n → L k ≤ 100) (hn30 : n ≤ 30) (hO : Ops w v n A L Z) :
    Calls Tryd.prog 10 #[v] w fun e W => ∃ v' g M, e = .returned (.tuple #[.pointer (some ⟨w.heap.size, 0, none⟩), v', .bool true]) ∧ Img W w.heap.size g M ∧ EntsVal W v' (lst g) ∧ Below w.heap.size w W := by
  obtain ⟨sa, cap, rfl⟩ : ∃ sa cap, v = .slice sa n cap := by obtain ⟨_, _, sa, cap, h, _⟩ := hO; exact ⟨sa, cap, h⟩
  go_enter Tryd.func10, Tryd.ntmps10
  go_wp2_with (go_at_call 21; refine (new_img _).mono ?_; rintro e W0 ⟨rfl, hI0, hB0⟩)
  go_loopw [6, 7] (fun s i wr => ∃ (k : Nat) (g : Nat → Option Int) (M : Nat → Nat), k ≤ n ∧ i = .int .i64 k ∧ Img wr w.heap.size g M ∧ EntsVal wr s (lst g) ∧ Below w.heap.size w wr) (fun _ i _ => n - (intOf i).toNat)
  case atStart => exact ⟨0, _, _, Nat.zero_le _, rfl, hI0, .inl ⟨rfl, seg_none fun _ _ _ => rfl⟩, hB0⟩
  case round =>
    obtain ⟨k, g, M, hk, rfl, hI, hE, hB⟩ := hrel
    by_cases hlt : k < n
    · obtain ⟨ob, oo, sa', cap', hv, hsa, hc⟩ := hO.keep (keep_below hB)
      cases hv
      obtain rfl := hsa (by omega)
      obtain ⟨c1, ⟨c2, c3⟩, vb, c4, c5⟩ := hc k hlt
      have hlk : L k ≤ 65536 := by have := hL k hlt; omega
      obtain ⟨K, hK⟩ : ∃ K, K = fitK (fun x => (g x).isSome) (A k) (L k) := ⟨_, rfl⟩
      obtain ⟨g', hg'⟩ : ∃ g', g' = if K = 0 then putG g (A k).toNat (L k) (Z k) else g := ⟨_, rfl⟩
      have hR := rput_any g u6 vb (A k) c2 c3 (L k) hlk (Z k) wr.drew hE c5
      have hP : ∀ W, Img W w.heap.size g M → Bs W vb (L k) (Z k) → Calls Tryd.prog 22 #[.pointer (some ⟨w.heap.size, 0, none⟩), .int .i64 (A k), vb] W fun e w' => e = .returned (.int .i64 K) ∧ W.grownBy w' (some w.heap.size) ∧ ∃ M', Img w' w.heap.size g' M' := fun W h1 h2 => by
        rw [hg', hK]; exact put_any w.heap.size (L k) (A k) c2 c3 hlk g M vb (Z k) W h1 h2
      rw [← hK, ← hg'] at hR
      have Hk : Hid (K = fitK (fun x => (g x).isSome) (A k) (L k)) := hK
      clear hK hg' hlk c2 c3
      generalize A k = at_ at *
      generalize L k = ln at *
      have c5' : Hid (Bs wr vb ln (Z k)) := c5
      obtain ⟨_, _, sb, cb, rfl, _, _⟩ := c5
      clear hc hO hsa hL
      go_wp2
      go_region_with (go_at_call 23; refine hR.mono ?_; rintro e W1 ⟨v', rfl, hE1, hB1⟩)
      all_goals
        have hB1' : Below wr.heap.size wr W1 := ⟨hB1.os, hB1.tape, hB1.output, hB1.size, hB1.block⟩
        have d1 := keep_below hB1' _ _ c1
        have d4 := keep_below hB1' _ _ c4
        have hB2 : Below w.heap.size w W1.drew := (below_on hB hB1').drew
        have hP1 := hP W1.drew (Img.drew (hI.below hI.lt hB1')) (c5'.out.keep (keep_below hB1'.drew))
        have hI1 := Img.drew (hI.below hI.lt hB1')
        have hE1d : EntsVal W1.drew v' (lst g') := hE1
        clear hP hR c5' c1 c4 hB1 hE1 hI hE hB hB1'
        go_wp2
        go_region_with (go_at_call 22; refine hP1.mono ?_; rintro e W3 ⟨rfl, hg3, M3, hI3⟩)
        all_goals
          have hE3 := hE1d.put hI1 hg3
          have hB3 := hB2.grown hg3 hB2.size (fun r e => by cases e; exact Nat.le_refl _)
          clear hP1 hE1d hI1 hB2
          have hKK : (K == K) = true := beq_self_eq_true K
          go_wp2
          go_roundw
          case rel => exact ⟨k + 1, g', M3, by omega, by go_num, hI3, hE3, hB3⟩
          case measure => simp [intOf]; omega
    · obtain rfl : k = n := by omega
      go_wp2
      go_ret3
      exact ⟨_, g, M, rfl, hI, hE, hB⟩
end Go.Proofs.YtjodidkjpdjmoaaDoor
