/- What ImageRises does when it is called: it returns true, and writes nothing that was there. -/
import Derived.Test.YtjodidkjpdjmoaaDoorRead
namespace Go.Proofs.YtjodidkjpdjmoaaDoor
open Go.RowKit

theorem Hid.mk' {p : Prop} (h : p) : Hid p := h
set_option maxRecDepth 100000 in
set_option maxHeartbeats 2000000 in
theorem rises_walk (v : Value) (n : Nat) (A : Nat → Int) (L : Nat → Nat) (Z : Nat → Nat → Int) {w : World} (hO : Ops w v n A L Z) (hT : Tab w) : Calls Tryd.prog 7 #[v] w fun e w' => e = .returned (.bool true) ∧ Below w.heap.size w w' := by
  obtain ⟨sa, cap, rfl⟩ : ∃ sa cap, v = .slice sa n cap := by obtain ⟨_, _, sa, cap, h, _⟩ := hO; exact ⟨sa, cap, h⟩
  cases hl : lightB n L with
  | false =>
    go_enter Tryd.func7, Tryd.ntmps7
    go_wp2_with (first | (go_at_call 21; refine (new_img _).mono ?_; rintro e W0 ⟨rfl, hI0, hB0⟩) | (go_at_call 8; refine (light_at hl hO hB0).mono ?_; rintro e w' ⟨rfl, rfl⟩) | (go_at_call 9; refine (alive_at hT hB0).mono ?_; rintro e W1 ⟨rfl, hB1⟩))
    go_ret
    exact ⟨rfl, below_on hB0 hB1⟩
  | true =>
    obtain ⟨hn30, hL⟩ := light_true hl
    go_enter Tryd.func7, Tryd.ntmps7
    go_wp2_with (first | (go_at_call 21; refine (new_img _).mono ?_; rintro e W0 ⟨rfl, hI0, hB0⟩) | (go_at_call 8; refine (light_at hl hO hB0).mono ?_; rintro e w' ⟨rfl, rfl⟩))
    go_loopw [4] (fun i wr => ∃ (k : Nat) (g : Nat → Option Int) (M : Nat → Nat), k ≤ n ∧ i = .int .i64 k ∧ Img wr w.heap.size g M ∧ Below w.heap.size w wr) (fun i _ => n - (intOf i).toNat)
    case atStart => exact ⟨0, _, _, Nat.zero_le _, rfl, hI0, hB0⟩
    case round =>
      obtain ⟨k, g, M, hk, rfl, hI, hB⟩ := hrel
      by_cases hlt : k < n
      · obtain ⟨ob, oo, sa', cap', hv, hsa, hc⟩ := hO.keep (keep_below hB)
        cases hv
        obtain rfl := hsa (by omega)
        obtain ⟨c1, ⟨c2, c3⟩, vb, c4, c5⟩ := hc k hlt
        have hP := put_any w.heap.size (L k) (A k) c2 c3 (by have := hL k hlt; omega) g M vb (Z k) wr.drew hI.drew c5
        obtain ⟨_, _, sb, cb, rfl, _, _⟩ := c5
        go_wp2
        go_still_tail 11, (by kernel_rfl)
        have hBd := hB.drew
        change wpList _ _ _ _ _ wr.drew
        generalize wr.drew = w2 at hP hBd ⊢
        go_wp2_with (go_at_call 22; refine hP.mono ?_; rintro e W3 ⟨rfl, hg3, M3, hI3⟩)
        go_roundw
        case rel => exact ⟨k + 1, _, M3, by omega, by go_num, hI3, hBd.grown hg3 hBd.size (fun r e => by cases e; exact Nat.le_refl _)⟩
        case measure => simp [intOf]; omega
      · obtain rfl : k = n := by omega
        go_wp2_with (first
          | (go_at_call 13; refine (bytes_any (some ⟨w.heap.size, 0, none⟩) (lst g) _ (holds_at hT hB hI)).mono ?_; rintro e W1 ⟨vb, rfl, hrow, hB1⟩)
          | (go_at_call 16; refine (runs_any (some ⟨w.heap.size, 0, none⟩) (lst g) _ ((holds_at hT hB hI).below hB1)).mono ?_; rintro e W2 ⟨vr, ps, rfl, hps, hR, hB2⟩))
        have hB12 := below_on hB (below_on hB1 hB2)
        obtain ⟨xs, hxs⟩ : ∃ xs, xs = lst g := ⟨_, rfl⟩
        have hI2 := hI.below hI.lt (below_on hB1 hB2)
        have hE2 := (ents_read hrow).keep (keep_below hB2)
        obtain ⟨rs, hrs⟩ : ∃ rs, rs = (runsRev xs).reverse := ⟨_, rfl⟩
        have hR2 := runs_read hR (rs := rs) (by rw [hps, hrs, hxs])
        rw [← hxs] at hE2
        obtain ⟨f1, f2, f3, f4⟩ := runs_found xs (by rw [hxs]; exact lst_sorted g) rs hrs
        have hxl : xs.length ≤ 65536 := by rw [hxs]; exact lst_length_le g
        have hpp : ∀ i, i < rs.length → (rn rs i).p < 65536 := fun i hi => runsRev_p xs _ (by
          have : rn rs i ∈ rs := by simp [rn, List.getD_eq_getElem?_getD, hi]
          exact List.mem_reverse.1 (hrs ▸ this))
        have hoff : ∀ i, i ≤ rs.length → off rs i ≤ xs.length := fun i hi => by rw [← f3]; exact off_le rs i _ hi
        obtain ⟨m, hm⟩ : ∃ m, m = rs.length := ⟨_, rfl⟩
        obtain ⟨nx, hnx⟩ : ∃ nx, nx = xs.length := ⟨_, rfl⟩
        obtain ⟨gr, sr, capr, rfl, hsr, hcr⟩ := hR2
        obtain ⟨gb, sb, capb, rfl, hsb, hcb⟩ := hE2
        have hml : m ≤ 65536 := by
          have := (runsRev_le xs).1
          have h2 : rs.length = (runsRev xs).length := by rw [hrs]; simp
          omega
        have Hm : Hid (m = rs.length) := hm
        have Hn : Hid (nx = xs.length) := hnx
        rw [← hm] at hsr hcr ⊢
        rw [← hnx] at hsb hxl ⊢
        have Hf : Hid (∀ i, i ≤ m → off rs i ≤ nx) := fun i hi => by rw [hnx]; exact hoff i (by omega)
        have H1 : Hid (∀ i, i < m → 0 < (rn rs i).bs.length ∧ (rn rs i).p < 65536) := fun i hi => ⟨f1 i (by omega), hpp i (by omega)⟩
        have H2 : Hid (∀ i, 0 < i → i < m → (rn rs (i - 1)).p + (rn rs (i - 1)).bs.length < (rn rs i).p) := fun i h0 hi => f2 i h0 (by omega)
        have H4 : Hid (∀ i k, i < m → k < (rn rs i).bs.length → ∃ x, xs[off rs i + k]? = some x ∧ x.a = (rn rs i).p + k ∧ x.v = (rn rs i).bs.getD k 0) := fun i k hi hk => f4 i k (by omega) hk
        have H3 : Hid (off rs m = nx) := by show off rs m = nx; rw [hm, hnx]; exact f3
        have Hcr := Hid.mk' hcr
        have Hcb := Hid.mk' hcb
        have HL : Hid (nx = (lst g).length) := by show nx = _; rw [hnx, hxs]
        clear hcr hcb f1 f2 f3 f4 hpp hoff hm hnx hxs hrs hps hR hrow hl hB1 hB2 hI0 hB0 hO hL hI hB
        go_loopw [7, 8] (fun nn i wr => ∃ k o : Nat, k ≤ m ∧ i = .int .i64 k ∧ nn = .int .i64 o ∧ Hid (o = off rs k) ∧ Hid (∀ p u, W2.cell? p = some u → wr.cell? p = some u) ∧ Img wr w.heap.size g M ∧ Below w.heap.size w wr) (fun _ i _ => m - (intOf i).toNat)
        case atStart => exact ⟨0, 0, Nat.zero_le _, rfl, rfl, (rfl : 0 = off rs 0), Hid.mk' (fun _ _ h => h), hI2, hB12⟩
        case round =>
          obtain ⟨i, o, hi, rfl, rfl, ho, hk, hIr, hBr⟩ := hrel
          by_cases hlt : i < m
          · obtain rfl := hsr (by omega)
            obtain ⟨c1, q, sq, c, c2, c3, c4⟩ := Hcr.out i hlt
            obtain ⟨hN0, hp⟩ := H1.out i hlt
            replace c1 := hk.out _ _ c1
            replace c2 := hk.out _ _ c2
            replace c4 := fun k h => hk.out _ _ (c4 k h)
            have hN := Hf.out (i + 1) (by omega)
            rw [off, ← ho.out] at hN
            have G4 : Hid (∀ k, k < (rn rs i).bs.length → ∃ x, xs[o + k]? = some x ∧ x.a = (rn rs i).p + k ∧ x.v = (rn rs i).bs.getD k 0) := fun k h => by rw [ho.out]; exact H4.out i k hlt h
            have ho' : Hid (o + (rn rs i).bs.length = off rs (i + 1)) := by show _ = _; rw [off, ho.out]
            have hgap : Hid (0 < i → (rn rs (i - 1)).p + (rn rs (i - 1)).bs.length < (rn rs i).p) := fun h => H2.out i h hlt
            have hprev : 0 < i → ∃ p' N' sq' c', p' < 65536 ∧ p' + N' < (rn rs i).p ∧ wr.cell? ⟨gr, (i - 1) * 2, none⟩ = some (.int .u16 (p' : Nat)) ∧ wr.cell? ⟨gr, (i - 1) * 2 + 1, none⟩ = some (.slice sq' N' c') := fun h => by
              obtain ⟨d1, _, sq', c', d2, _, _⟩ := Hcr.out (i - 1) (by omega)
              exact ⟨_, _, sq', c', (H1.out (i - 1) (by omega)).2, hgap.out h, hk.out _ _ d1, hk.out _ _ d2⟩
            obtain ⟨p, hpe⟩ : ∃ p, p = (rn rs i).p := ⟨_, rfl⟩
            obtain ⟨N, hNe⟩ : ∃ N, N = (rn rs i).bs.length := ⟨_, rfl⟩
            obtain ⟨y, hye⟩ : ∃ y : Nat → Int, y = fun k => (rn rs i).bs.getD k 0 := ⟨_, rfl⟩
            replace c4 : ∀ k, k < (rn rs i).bs.length → wr.cell? ⟨q, k, none⟩ = some (.int .u8 (y k)) := fun k h => by rw [hye]; exact c4 k h
            replace G4 : Hid (∀ k, k < (rn rs i).bs.length → ∃ x, xs[o + k]? = some x ∧ x.a = (rn rs i).p + k ∧ x.v = y k) := fun k h => by rw [hye]; exact G4.out k h
            simp only [← hpe, ← hNe] at hN0 hN ho' hprev c1 c2 c3 c4 G4 hp
            clear hpe hNe hye hgap
            have hNz : ((N : Int) == 0) = false := by simp; omega
            clear hsr
            obtain rfl := hsb (by omega)
            clear hsb
            have hG : (∃ p' N' sq' c', 0 < i ∧ p' < 65536 ∧ p' + N' < p ∧ wr.cell? ⟨gr, (i - 1) * 2, none⟩ = some (.int .u16 (p' : Nat)) ∧ wr.cell? ⟨gr, (i - 1) * 2 + 1, none⟩ = some (.slice sq' N' c')) ∨ decide (0 < i) = false := by
              by_cases hi0 : 0 < i
              · obtain ⟨p', N', sq', c', h1, h2, h3, h4⟩ := hprev hi0
                exact .inl ⟨p', N', sq', c', hi0, h1, h2, h3, h4⟩
              · exact .inr (by simp; omega)
            clear hprev
            rcases hG with ⟨p', N', sq', c', hi0, hp', hlt', d1, d2⟩ | hd
            have hd2 : decide ((p : Int) ≤ (p' : Int) + (N' : Int)) = false := by simp; omega
            have hd3 : decide (0 < i) = true := by simp; omega
            all_goals
              go_wp2
              go_quiet (fail)
              go_wp2
              go_loopw [7, 9] (fun nn kk wi => ∃ k : Nat, k ≤ N ∧ kk = .int .i64 k ∧ nn = .int .i64 ((o + k : Nat) : Int) ∧ Hid (∀ p u, wr.cell? p = some u → wi.cell? p = some u) ∧ Img wi w.heap.size g M ∧ Below w.heap.size w wi) (fun _ kk _ => N - (intOf kk).toNat)
              case atStart => exact ⟨0, Nat.zero_le _, rfl, rfl, Hid.mk' (fun _ _ h => h), ⟨⟨hIr.mks.marks, hIr.mks.free, hIr.mks.bits⟩, hIr.vals⟩, below_drewN hBr _⟩
              case round =>
                obtain ⟨k2, hk2, rfl, rfl, hkk, hIi, hBi⟩ := hrel
                have c2i := hkk.out _ _ c2
                have c1i := hkk.out _ _ c1
                by_cases hkn : k2 < N
                · have hq : sq = some ⟨q, 0, none⟩ := c3 (by omega)
                  subst hq
                  obtain ⟨x, x1, x2, x3⟩ := G4.out k2 hkn
                  obtain ⟨b1, b2⟩ := Hcb.out (o + k2) x x1
                  replace b1 := hkk.out _ _ (hk.out _ _ b1)
                  replace b2 := hkk.out _ _ (hk.out _ _ b2)
                  have b3 := hkk.out _ _ (c4 k2 hkn)
                  rw [x2] at b1
                  rw [x3] at b2
                  have hxp : p + k2 < 65536 := by have := x.h; omega
                  clear x1 x2 x3
                  have hd4 : decide ((nx : Int) ≤ (o : Int) + (k2 : Int)) = false := by simp; omega
                  go_wp2
                  go_quiet (fail)
                  go_wp2
                  go_roundw
                  case rel => exact ⟨k2 + 1, by omega, by go_num, by go_num, Hid.mk' (fun p u h => hkk.out p u h), ⟨⟨hIi.mks.marks, hIi.mks.free, hIi.mks.bits⟩, hIi.vals⟩, below_drewN hBi _⟩
                  case measure => simp [intOf]; omega
                · obtain rfl : k2 = N := by omega
                  go_wp2
                  go_roundw
                  case rel => exact ⟨i + 1, o + k2, by omega, by go_num, rfl, ho', Hid.mk' (fun p u h => hkk.out p u (hk.out p u h)), hIi, hBi⟩
                  case measure => simp [intOf]; omega
          · obtain rfl : i = m := by omega
            have e3 : o = nx := by rw [ho.out]; exact H3.out
            subst e3
            have hLen : ∀ W, Img W w.heap.size g M → Below w.heap.size w W → Calls Tryd.prog 11 #[.pointer (some ⟨w.heap.size, 0, none⟩)] W fun e w' => e = .returned (.int .i64 (o : Nat)) ∧ w' = W := fun W h1 h2 => by
              rw [HL.out]; exact len_any _ _ W (holds_at hT h2 h1)
            clear H1 H2 H3 H4 Hf HL Hm Hn ho
            go_wp2_with (first | (go_at_call 11; refine (hLen _ hIr hBr).mono ?_; rintro e w' ⟨rfl, rfl⟩) | (go_at_call 9; refine (alive_at hT hBr).mono ?_; rintro e W5 ⟨rfl, hB5⟩))
            go_ret
            exact ⟨rfl, below_on hBr hB5⟩
end Go.Proofs.YtjodidkjpdjmoaaDoor
