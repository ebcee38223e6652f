/- What ImageKeeps does when it is called: it returns true, and writes nothing that was there. -/
import Derived.Test.YtjodidkjpdjmoaaDoorFillsWalk
namespace Go.Proofs.YtjodidkjpdjmoaaDoor
open Go.RowKit

/-- What a Put leaves of the bytes that were there, and how many there are then. -/
theorem put_facts {g g' : Nat → Option Int} {K at_ : Int} {n : Nat} {z : Nat → Int} (hK : K = fitK (fun x => (g x).isSome) at_ n) (hg' : g' = if K = 0 then putG g at_.toNat n z else g) :
    (∀ x ∈ lst g, g' x.a = some x.v) ∧ (K = 0 → (lst g').length = (lst g).length + n) ∧ (K ≠ 0 → (lst g').length = (lst g).length) := by
  by_cases h0 : K = 0
  · rw [if_pos h0] at hg'
    rw [h0] at hK
    obtain ⟨a, rfl, hle, hfree⟩ := fitK_zero hK.symm
    rw [Int.toNat_natCast] at hg'
    have hf : ∀ b, a ≤ b → b < a + n → g b = none := fun b h1 h2 => by
      have h3 := hfree (b - a) (by omega)
      rw [show a + (b - a) = b by omega] at h3
      cases hb : g b with
      | none => rfl
      | some y => rw [hb] at h3; cases h3
    refine ⟨fun x hx => ?_, fun _ => ?_, fun h => absurd h0 h⟩
    · have hgx := mem_lst.1 hx
      rw [hg']
      unfold putG
      rw [if_neg, hgx]
      rintro ⟨h1, h2⟩
      rw [hf _ h1 h2] at hgx; cases hgx
    · rw [hg', lst_putG g a n z hle, lst_free g a n hle hf]
      simp only [List.length_append, news_length a z n hle]
      omega
  · rw [if_neg h0] at hg'
    exact ⟨fun x hx => by rw [hg']; exact mem_lst.1 hx, fun h => absurd h h0, fun _ => by rw [hg']⟩
theorem img_drewN {W : World} {b : Nat} {g : Nat → Option Int} {M : Nat → Nat} (h : Img W b g M) (n : Nat) : Img (W.drewN n) b g M := h.below h.lt (below_drewN (Below.refl W.heap.size W) n)
/-- What nil answers. -/
theorem nil_facts {w : World} (hT : Tab w) :
    Hid (∀ V, Calls Tryd.prog 14 #[.pointer none, .int .u16 5] V fun e V' => e = .returned (.tuple #[.int .u8 0, .bool false]) ∧ V = V') ∧
    Hid (∀ V, Calls Tryd.prog 11 #[.pointer none] V fun e V' => e = .returned (.int .i64 0) ∧ V = V') ∧
    Hid (∀ V, Calls Tryd.prog 13 #[.pointer none] V fun e V' => ∃ sa cap, e = .returned (.slice sa 0 cap) ∧ Below V.heap.size V V') ∧
    Hid (∀ V, Calls Tryd.prog 16 #[.pointer none] V fun e V' => ∃ sa cap, e = .returned (.slice sa 0 cap) ∧ Below V.heap.size V V') ∧
    Hid (∀ V, Calls Tryd.prog 19 #[.pointer none, .int .u8 3] V fun e V' => ∃ q, e = .returned (.slice (some ⟨q, 0, none⟩) 65536 65536) ∧ Below V.heap.size V V') ∧
    Hid (∀ V, Below w.heap.size w V → Calls Tryd.prog 9 #[] V fun e V' => e = .returned (.bool true) ∧ Below w.heap.size w V') := by
  have hH : ∀ V, Holds V none [] := fun V => .inl ⟨rfl, rfl⟩
  refine ⟨fun V => ?_, fun V => ?_, fun V => ?_, fun V => ?_, fun V => ?_, fun V hV => ?_⟩
  · exact (get_nil 5 V).mono fun e V' ⟨h, h'⟩ => ⟨h, h'.symm⟩
  · exact (len_any _ _ V (hH V)).mono fun e V' ⟨h, h'⟩ => ⟨h, h'.symm⟩
  · refine (bytes_any _ _ V (hH V)).mono fun e V' ⟨u, h, ho, hB⟩ => ?_
    obtain ⟨_, sa, cap, rfl, _, _⟩ := ents_read ho
    exact ⟨sa, cap, h, hB⟩
  · refine (runs_any _ _ V (hH V)).mono fun e V' ⟨u, ps, h, hp, hR, hB⟩ => ?_
    obtain ⟨_, sa, cap, rfl, _, _⟩ := runs_read hR (by rw [hp])
    exact ⟨sa, cap, h, hB⟩
  · exact (fill_any _ _ V (hH V) 3).mono fun e V' ⟨h, _, hB⟩ => ⟨_, h, hB⟩
  · exact (alive_at hT hV).mono fun e V' ⟨h, hB⟩ => ⟨h, below_on hV hB⟩
set_option maxRecDepth 100000 in
set_option maxHeartbeats 4000000 in
theorem imageKeeps_walk (v : Value) (n : Nat) (A : Nat → Int) (L : Nat → Nat) (Z : Nat → Nat → Int) {w : World} (hO : Ops w v n A L Z) (hT : Tab w) :
    Calls Tryd.prog 6 #[v] w fun e w' => e = .returned (.bool true) ∧ Below w.heap.size w w' := by
  obtain ⟨sa, cap, rfl⟩ : ∃ sa cap, v = .slice sa n cap := by obtain ⟨_, _, sa, cap, h, _⟩ := hO; exact ⟨sa, cap, h⟩
  obtain ⟨N14, N11, N13, N16, N19, N9⟩ := nil_facts hT
  cases hl : lightB n L with
  | false =>
    go_enter Tryd.func6, Tryd.ntmps6
    go_wp2_with (first
      | (go_at_call 21; refine (new_img _).mono ?_; rintro e W1 ⟨rfl, hI1, hB1⟩)
      | (go_at_call 8; refine (light_at hl hO hB1).mono ?_; rintro e w' ⟨rfl, rfl⟩)
      | (go_at_call 9; refine (N9.out _ hB1).mono ?_; rintro e W1 ⟨rfl, hB2⟩))
    go_ret
    exact ⟨rfl, hB2⟩
  | true =>
    obtain ⟨hn30, hL⟩ := light_true hl
    have hL1 : ∀ V, Below w.heap.size w V → Calls Tryd.prog 8 #[.slice sa n cap] V fun e w' => e = .returned (.bool true) ∧ V = w' := fun V hV => (light_at hl hO hV).mono fun _ _ ⟨h, h'⟩ => ⟨h, h'.symm⟩
    go_enter Tryd.func6, Tryd.ntmps6
    go_wp2_with (first
      | (go_at_call 21; refine (new_img _).mono ?_; rintro e W1 ⟨rfl, hI1, hB1⟩)
      | (go_at_call 8; refine (hL1 _ hB1).mono ?_; rintro e w' ⟨rfl, rfl⟩))
    obtain ⟨b, hb⟩ : ∃ b, w.heap.size = b := ⟨_, rfl⟩
    have hbw : w.heap.size ≤ b := by omega
    rw [hb] at hI1 ⊢
    clear hL1 hb
    go_loopw [4, 5, 6, 7, 8, 9] (fun i _ _ _ _ _ wr => ∃ (k : Nat) (g : Nat → Option Int) (M : Nat → Nat), k ≤ n ∧ i = .int .i64 k ∧ Img wr b g M ∧ Below w.heap.size w wr) (fun i _ _ _ _ _ _ => n - (intOf i).toNat)
    case atStart => exact ⟨0, _, _, Nat.zero_le _, rfl, hI1, hB1⟩
    case round =>
      obtain ⟨k, g, M, hk, rfl, hI, hB⟩ := hrel
      by_cases hlt : k < n
      · obtain ⟨ob, oo, sa', cap', hv, hsa, hc⟩ := hO
        cases hv
        obtain rfl := hsa (by omega)
        obtain ⟨c1, ⟨c2, c3⟩, vb, c4, c5⟩ := hc k hlt
        have hob : ob ≠ b := fun e => by have h := World.block_lt_of_cell? _ _ c1; simp only at h; omega
        replace c1 := keep_below hB _ _ c1
        replace c4 := keep_below hB _ _ c4
        replace c5 := c5.keep (keep_below hB)
        have hlk : L k ≤ 100 := hL k hlt
        obtain ⟨K, hK⟩ : ∃ K, K = fitK (fun x => (g x).isSome) (A k) (L k) := ⟨_, rfl⟩
        obtain ⟨g', hg'⟩ : ∃ g', g' = if K = 0 then putG g (A k).toNat (L k) (Z k) else g := ⟨_, rfl⟩
        have hP : ∀ W, Img W b g M → Bs W vb (L k) (Z k) → Calls Tryd.prog 22 #[.pointer (some ⟨b, 0, none⟩), .int .i64 (A k), vb] W fun e w' => e = .returned (.int .i64 K) ∧ W.grownBy w' (some b) ∧ ∃ M', Img w' b g' M' := fun W h1 h2 => by
          rw [hg', hK]; exact put_any b (L k) (A k) c2 c3 (by omega) g M vb (Z k) W h1 h2
        obtain ⟨f1, f2, f3⟩ := put_facts hK hg'
        clear hK hg' c2 c3
        generalize A k = at_ at *
        generalize L k = ln at *
        have c5' : Hid (Bs wr vb ln (Z k)) := c5
        obtain ⟨_, _, sb, cb, rfl, _, _⟩ := c5
        have hBy : Calls Tryd.prog 13 #[.pointer (some ⟨b, 0, none⟩)] wr fun e w' => ∃ sr cr, e = .returned (.slice sr (lst g).length cr) ∧ EntsVal w' (.slice sr (lst g).length cr) (lst g) ∧ Below wr.heap.size wr w' :=
          (bytes_any _ _ wr (holds_at hT hB hI)).mono fun e w' ⟨u, h, ho, hb⟩ => by
            have hE := ents_val ho
            obtain ⟨_, sr, cr, rfl, _, _⟩ := hE.read
            exact ⟨sr, cr, h, hE, hb⟩
        have hlg := lst_length_le g
        have hlg' := lst_length_le g'
        obtain ⟨m, hm⟩ : ∃ m, m = (lst g).length := ⟨_, rfl⟩
        rw [← hm] at hBy hlg f2 f3
        obtain ⟨m', hm'⟩ : ∃ m', m' = (lst g').length := ⟨_, rfl⟩
        rw [← hm'] at f2 f3 hlg'
        have F1 := Hid.mk' f1
        have F2 := Hid.mk' f2
        have F3 := Hid.mk' f3
        have Hm := Hid.mk' hm
        have Hm' := Hid.mk' hm'
        have HP := Hid.mk' hP
        clear hc hsa hL f1 f2 f3 hm hm' hP hI1
        go_wp2_with (go_at_call 13; refine hBy.mono ?_; rintro e W1 ⟨sr, cr, rfl, hE, hB1⟩)
        have d1 := keep_below hB1 _ _ c1
        have d4 := keep_below hB1 _ _ c4
        have hI1 := (hI.below hI.lt hB1).drew
        have hP1 := HP.out W1.drew hI1 (c5'.out.keep (keep_below hB1.drew))
        have hB2 := (below_on hB hB1).drew
        have hEd : EntsVal W1.drew (.slice sr m cr) (lst g) := hE
        have D4 := Hid.mk' d4
        clear hBy HP c5' c1 c4 hI hB hB1 hE
        go_region_with (go_at_call 22; refine hP1.mono ?_; rintro e W3 ⟨rfl, hg3, M3, hI3⟩)
        all_goals
          have hE3 : EntsVal W3 (.slice sr m cr) (lst g) := hEd.put hI1 hg3
          have hB3 := hB2.grown hg3 hB2.size (fun r e => by cases e; exact hbw)
          have e4 : W3.cell? ⟨ob, oo + k * 2 + 1, none⟩ = some (.slice sb ln cb) := hg3.cell (show W1.drew.cell? _ = _ by simpa using D4.out) (by intro e; injection e with e; exact hob e)
          obtain ⟨gr, sr', cr', ee, hsr, hcr⟩ := hE3.read
          injection ee with ee1 ee2 ee3
          subst ee1
          clear ee2 ee3 hE3 hEd hg3 hP1 hI1 d1 d4 hB2
          have Hin : Hid (∀ j, j < m → sr = some ⟨gr, 0, none⟩ ∧ ∃ (a : Nat) (y : Int), W3.cell? ⟨gr, j * 2, none⟩ = some (.int .u16 (a : Nat)) ∧ W3.cell? ⟨gr, j * 2 + 1, none⟩ = some (.int .u8 y) ∧
              Calls Tryd.prog 14 #[.pointer (some ⟨b, 0, none⟩), .int .u16 a] W3 fun e w' => e = .returned (.tuple #[.int .u8 y, .bool true]) ∧ W3 = w') := fun j hj => by
            rw [Hm.out] at hj
            have hx := List.getElem?_eq_getElem hj
            refine ⟨hsr (by omega), _, _, (hcr j _ hx).1, (hcr j _ hx).2, ?_⟩
            have hgx := F1.out _ (List.getElem_mem hj)
            refine (get_any b _ (Ent.h _) g' M3 W3 hI3).mono fun e w' ⟨h, h'⟩ => ⟨?_, h'.symm⟩
            rw [h, hgx]; rfl
          have Hlen : Hid (∀ q, Calls Tryd.prog 11 #[.pointer (some ⟨b, 0, none⟩)] (W3.drewN q) fun e w' => e = .returned (.int .i64 (m' : Nat)) ∧ ∃ p, w' = (W3.drewN q).drewN p) := fun q => by
            rw [Hm'.out]
            exact (len_any _ _ _ (holds_at hT (below_drewN hB3 q) (img_drewN hI3 q))).mono fun e w' ⟨h, h'⟩ => ⟨h, 0, h'⟩
          clear hsr hcr
          have E4 := Hid.mk' e4
          have HI3 := Hid.mk' hI3
          clear e4 hI3 D4
          go_wp2
          go_loopw [7, 8, 9] (fun jj _ _ wr => ∃ j : Nat, j ≤ m ∧ jj = .int .i64 j ∧ wr = W3) (fun jj _ _ _ => m - (intOf jj).toNat)
          case atStart => exact ⟨0, Nat.zero_le _, rfl, rfl⟩
          case round =>
            obtain ⟨j, hj, rfl, rfl⟩ := hrel
            by_cases hjm : j < m
            · obtain ⟨rfl, a, y, x1, x2, x3⟩ := Hin.out j hjm
              have hyy : (y != y) = false := by simp
              go_wp2_with (go_at_call 14; refine x3.mono ?_; rintro e w' ⟨rfl, rfl⟩)
              exact ⟨⟨j + 1, by omega, by simp, trivial⟩, by simp [intOf]; omega⟩
            · obtain rfl : j = m := by omega
              by_cases hK0 : K = 0
              · subst hK0
                have hne : ((m' : Int) != (j : Int) + (ln : Int)) = false := by have := F2.out rfl; simp; omega
                have hw : IntKind.i64.wrap ((j : Int) + (ln : Int)) = (j : Int) + (ln : Int) := IntWalk.i64_in _ (by omega)
                have e4 := E4.out
                clear Hin F1 F2 F3
                go_wp2
                go_quiet ((go_at_call 11; exact Calls.quiet_of (Hlen.out _)))
                go_wp2
                exact ⟨⟨k + 1, g', M3, by omega, by simp, img_drewN HI3.out _, below_drewN hB3 _⟩, by simp [intOf]; omega⟩
              · have hk1 : (K != 0) = true := by simp [hK0]
                have hk2 : (K == 0) = false := by simp [hK0]
                have hne : ((m' : Int) != (j : Int)) = false := by have := F3.out hK0; simp; omega
                clear Hin F1 F2 F3 hK0
                go_wp2
                go_quiet ((go_at_call 11; exact Calls.quiet_of (Hlen.out _)))
                go_wp2
                exact ⟨⟨k + 1, g', M3, by omega, by simp, img_drewN HI3.out _, below_drewN hB3 _⟩, by simp [intOf]; omega⟩
      · obtain rfl : k = n := by omega
        clear hI hO hI1 hL
        go_wp2_with (first
          | (go_at_call 14; refine (N14.out _).mono ?_; rintro e w' ⟨rfl, rfl⟩)
          | (go_at_call 22; refine (put_nil _ _ _ _ _).mono ?_; rintro e V1 ⟨rfl, rfl⟩)
          | (go_at_call 11; refine (N11.out _).mono ?_; rintro e w' ⟨rfl, rfl⟩)
          | (go_at_call 13; refine (N13.out _).mono ?_; rintro e V2 ⟨s2, c2, rfl, hk2⟩; have hB2 := below_on (hB.alloc hB.size (.cells #[.int .u8 2] 5)) hk2)
          | (go_at_call 16; refine (N16.out _).mono ?_; rintro e V3 ⟨s3, c3, rfl, hk3⟩; have hB3 := below_on hB2 hk3)
          | (go_at_call 19; refine (N19.out _).mono ?_; rintro e V4 ⟨q4, rfl, hk4⟩; have hB4 := below_on hB3 hk4)
          | (go_at_call 9; refine (N9.out _ hB4).mono ?_; rintro e V5 ⟨rfl, hB5⟩))
        go_ret
        exact ⟨rfl, hB5⟩
end Go.Proofs.YtjodidkjpdjmoaaDoor
