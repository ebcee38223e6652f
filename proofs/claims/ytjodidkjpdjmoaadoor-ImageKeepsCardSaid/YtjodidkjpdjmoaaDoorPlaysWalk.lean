/- What ImagePlays does when it is called: it returns true, and writes nothing that was there. -/
import Derived.Test.YtjodidkjpdjmoaaDoorPlay
import Derived.Test.YtjodidkjpdjmoaaDoorFind
import Derived.Test.YtjodidkjpdjmoaaDoorRruns
namespace Go.Proofs.YtjodidkjpdjmoaaDoor
open Go.RowKit

/-- What ImagePlays asks its callees behind the play, in whatever world behind W it comes to them. -/
theorem plays_facts {w W : World} (hT : Tab w) (hB1 : Below w.heap.size w W) {b : Nat} {g : Nat → Option Int} {M : Nat → Nat} {v : Value} (hI : Img W b g M) (hE : EntsVal W v (lst g)) :
    Hid (∀ V, Below W.heap.size W V → Calls Tryd.prog 9 #[] V fun e V' => e = .returned (.bool true) ∧ Below W.heap.size W V') ∧
    Hid (∀ V, Below W.heap.size W V → Calls Tryd.prog 11 #[.pointer (some ⟨b, 0, none⟩)] V fun e V' => e = .returned (.int .i64 ((lst g).length : Nat)) ∧ V = V') ∧
    Hid (∀ V, Below W.heap.size W V → Calls Tryd.prog 13 #[.pointer (some ⟨b, 0, none⟩)] V fun e V' => ∃ u, e = .returned u ∧ EntsRead V' u (lst g) ∧ Below V.heap.size V V') ∧
    Hid (∀ V u, Below W.heap.size W V → EntsRead V u (lst g) → Calls Tryd.prog 12 #[u, v] V fun e V' => e = .returned (.bool true) ∧ Below V.heap.size V V') ∧
    Hid (∀ V, Below W.heap.size W V → Calls Tryd.prog 16 #[.pointer (some ⟨b, 0, none⟩)] V fun e V' => ∃ u, e = .returned u ∧ RunsRead V' u (runsRev (lst g)).reverse ∧ Below V.heap.size V V') ∧
    Hid (∀ V, Below W.heap.size W V → Calls Tryd.prog 17 #[v] V fun e V' => ∃ u, e = .returned u ∧ RunsRead V' u (runsRev (lst g)).reverse ∧ Below V.heap.size V V') := by
  refine ⟨fun V hV => ?_, fun V hV => ?_, fun V hV => ?_, fun V u hV hu => ?_, fun V hV => ?_, fun V hV => ?_⟩
  · exact (alive_at (tab_at hT hB1) hV).mono fun e V' ⟨h, hB⟩ => ⟨h, below_on hV hB⟩
  · exact (len_any _ _ V (holds_at hT (below_on hB1 hV) (hI.below hI.lt hV))).mono fun e V' ⟨h, hB⟩ => ⟨h, hB.symm⟩
  · exact (bytes_any _ _ V (holds_at hT (below_on hB1 hV) (hI.below hI.lt hV))).mono fun e V' ⟨u, h, ho, hB⟩ => ⟨u, h, ents_read ho, hB⟩
  · exact (rsame_any u v _ _ V (lst_length_le _) (lst_length_le _) hu (hE.keep (keep_below hV)).read).mono fun e V' ⟨h, hk⟩ => ⟨by rw [h, sameL_self], hk⟩
  · exact (runs_any _ _ V (holds_at hT (below_on hB1 hV) (hI.below hI.lt hV))).mono fun e V' ⟨u, ps, h, hp, hR, hB⟩ => ⟨u, h, runs_read hR (by rw [hp]), hB⟩
  · exact (rruns_any v _ V (lst_length_le _) (hE.keep (keep_below hV)).read).mono fun e V' ⟨u, ps, h, hp, hR, hB⟩ => ⟨u, h, runs_read hR (by rw [hp]), hB⟩
theorem find_none {W : World} {g : Nat → Option Int} {a : Nat} (ha : a < 65536) {v : Value} (hE : EntsVal W v (lst g)) (hg : g a = none) : Calls Tryd.prog 15 #[v, .int .u16 a] W fun e w' => e = .returned (.int .i64 (-1)) ∧ W = w' :=
  (find_any v (lst g) a ha W (lst_length_le _) hE.read).mono fun e w' ⟨h, hw⟩ => by
    refine ⟨?_, hw.symm⟩
    rcases h with h | ⟨i, x, _, hx, rfl⟩
    · exact h.1
    · have := mem_lst.1 (List.mem_of_getElem? hx)
      rw [hg] at this; cases this
theorem find_some {W : World} {g : Nat → Option Int} {a : Nat} (ha : a < 65536) {v : Value} (hE : EntsVal W v (lst g)) {y : Int} (hg : g a = some y) : Calls Tryd.prog 15 #[v, .int .u16 a] W fun e w' => ∃ (i : Nat), e = .returned (.int .i64 i) ∧ i < (lst g).length ∧ (∃ x, (lst g)[i]? = some x ∧ x.v = y) ∧ W = w' :=
  (find_any v (lst g) a ha W (lst_length_le _) hE.read).mono fun e w' ⟨h, hw⟩ => by
    rcases h with h | ⟨i, x, he, hx, rfl⟩
    · exact absurd rfl (h.2 ⟨a, y, ha⟩ (mem_lst.2 hg))
    · have := mem_lst.1 (List.mem_of_getElem? hx)
      rw [hg] at this
      exact ⟨i, he, (List.getElem?_eq_some_iff.1 hx).1, ⟨x, hx, (Option.some.inj this).symm⟩, hw.symm⟩
theorem bs_drewN {W : World} {v : Value} {n : Nat} {z : Nat → Int} (h : Bs W v n z) (q : Nat) : Bs (W.drewN q) v n z := h.keep (fun p u hu => by simpa using hu)
set_option maxRecDepth 100000 in
set_option maxHeartbeats 4000000 in
theorem imagePlays_walk (v : Value) (n : Nat) (A : Nat → Int) (L : Nat → Nat) (Z : Nat → Nat → Int) {w : World} (hO : Ops w v n A L Z) (a0 : Int) (wa : (Lit.int .u16 a0).wf = true) (hT : Tab w) :
    Calls Tryd.prog 3 #[v, .int .u16 a0] w fun e w' => e = .returned (.bool true) ∧ Below w.heap.size w w' := by
  have hb0 := Below.refl w.heap.size w
  obtain ⟨a, ha, rfl⟩ : ∃ a : Nat, a < 65536 ∧ a0 = a := ⟨a0.toNat, by have := bounds_u16 wa; omega, by have := bounds_u16 wa; omega⟩
  obtain ⟨sa, cap, rfl⟩ : ∃ sa cap, v = .slice sa n cap := by obtain ⟨_, _, sa, cap, h, _⟩ := hO; exact ⟨sa, cap, h⟩
  cases hl : lightB n L with
  | false =>
    have h1 := light_at hl hO hb0
    have hA := alive_at hT hb0
    go_enter Tryd.func3, Tryd.ntmps3
    go_wp2_with (first | (go_at_call 8; refine h1.mono ?_; rintro e w' ⟨rfl, rfl⟩) | (go_at_call 9; refine hA.mono ?_; rintro e W1 ⟨rfl, hB1⟩))
    go_ret
    exact ⟨rfl, hB1⟩
  | true =>
    have h1 := (light_at hl hO hb0).mono (R' := fun e w' => e = .returned (.bool true) ∧ w = w') fun _ _ ⟨h, h'⟩ => ⟨h, h'.symm⟩
    obtain ⟨hn30, hL⟩ := light_true hl
    have p1 : Calls Tryd.prog 10 #[.slice sa n cap] w fun e W => ∃ b v' g M, e = .returned (.tuple #[.pointer (some ⟨b, 0, none⟩), v', .bool true]) ∧ Img W b g M ∧ EntsVal W v' (lst g) ∧ Below w.heap.size w W :=
      (play_any _ n A L Z hL hn30 hO).mono fun e W ⟨v', g, M, h⟩ => ⟨_, v', g, M, h⟩
    clear hL
    go_enter Tryd.func3, Tryd.ntmps3
    go_wp2_with (first
      | (go_at_call 8; refine h1.mono ?_; rintro e w' ⟨rfl, rfl⟩)
      | (go_at_call 10; refine p1.mono ?_; rintro e W1 ⟨b1, v1, g1, M1, rfl, hI1, hE1, hB1⟩; obtain ⟨H1, H2, H3, H4, H5, H6⟩ := plays_facts hT hB1 hI1 hE1; obtain ⟨gr, sr, cr, rfl, hsr, hcr⟩ := hE1.read; have hr0 := Below.refl W1.heap.size W1))
    have hlen := lst_length_le g1
    obtain ⟨m, hm⟩ : ∃ m, m = (lst g1).length := ⟨_, rfl⟩
    have hlm : m ≤ 65536 := by omega
    have Hcr := Hid.mk' hcr
    rw [← hm] at hsr H2 H4 H6 hE1 ⊢
    have Hm : Hid (m = (lst g1).length) := hm
    clear hcr hm hlen h1 p1
    have hHas : ∀ V, Below W1.heap.size W1 V → Calls Tryd.prog 14 #[.pointer (some ⟨b1, 0, none⟩), .int .u16 a] V fun e w' => e = .returned (.tuple #[.int .u8 ((g1 a).getD 0), .bool (g1 a).isSome]) ∧ w' = V := fun V hV => get_any b1 a ha g1 M1 V (hI1.below hI1.lt hV)
    have hE1' : ∀ V, Below W1.heap.size W1 V → EntsVal V (.slice sr m cr) (lst g1) := fun V hV => hE1.keep (keep_below hV)
    have Hfn : Hid (g1 a = none → ∀ V, Below W1.heap.size W1 V → Calls Tryd.prog 15 #[.slice sr m cr, .int .u16 a] V fun e w' => e = .returned (.int .i64 (-1)) ∧ V = w') := fun hg V hV => find_none ha (hE1' V hV) hg
    have Hfs : Hid (∀ y, g1 a = some y → ∀ V, Below W1.heap.size W1 V → Calls Tryd.prog 15 #[.slice sr m cr, .int .u16 a] V fun e w' => ∃ (i : Nat), e = .returned (.int .i64 i) ∧ i < (lst g1).length ∧ (∃ x, (lst g1)[i]? = some x ∧ x.v = y) ∧ V = w') := fun y hg V hV => find_some ha (hE1' V hV) hg
    have Hhas := Hid.mk' hHas
    clear hHas hE1' hE1
    obtain ⟨rs, hrs⟩ : ∃ rs, (runsRev (lst g1)).reverse = rs := ⟨_, rfl⟩
    rw [hrs] at H5 H6
    have hrl : rs.length ≤ 65536 ∧ ∀ r ∈ rs, r.bs.length ≤ 65536 := by
      rw [← hrs, List.length_reverse]
      have h := runsRev_le (lst g1)
      rw [← Hm.out] at h
      exact ⟨by omega, fun r hr => by have := h.2 r (List.mem_reverse.1 hr); omega⟩
    clear hrs
    cases hg : g1 a with
    | none =>
      have h14 := Hhas.out
      have h15 := Hfn.out hg
      rw [hg] at h14
      have h14 : ∀ V, Below W1.heap.size W1 V → Calls Tryd.prog 14 #[.pointer (some ⟨b1, 0, none⟩), .int .u16 a] V fun e w' => e = .returned (.tuple #[.int .u8 0, .bool false]) ∧ w' = V := h14
      clear hg Hfn Hfs Hhas Hcr
      go_wp2_with (first
        | (go_at_call 9; refine (H1.out _ hr0).mono ?_; rintro e W2 ⟨rfl, hr2⟩)
        | (go_at_call 11; refine (H2.out _ hr2).mono ?_; rintro e w' ⟨rfl, rfl⟩)
        | (go_at_call 13; refine (H3.out _ hr2).mono ?_; rintro e W3 ⟨u3, rfl, hu3, hb3⟩; (have hr3 := below_on hr2 hb3); clear hb3)
        | (go_at_call 12; refine (H4.out _ _ hr3 hu3).mono ?_; rintro e W4 ⟨rfl, hb4⟩; (have hr4 := below_on hr3 hb4); clear hb4)
        | (go_at_call 14; refine (h14 _ hr4).mono ?_; rintro e w' ⟨rfl, rfl⟩)
        | (go_at_call 15; refine (h15 _ hr4).mono ?_; rintro e w' ⟨rfl, rfl⟩)
        | (go_at_call 16; refine (H5.out _ hr4).mono ?_; rintro e W5 ⟨u5, rfl, hu5, hb5⟩; (have hr5 := below_on hr4 hb5); (have hu5c := hu5); obtain ⟨q5, s5, c5, rfl, hs5, hc5⟩ := hu5c; (have Hu5 := Hid.mk' hu5); clear hu5 hs5 hc5)
        | (go_at_call 17; refine (H6.out _ hr5).mono ?_; rintro e W6 ⟨u6, rfl, hu6, hb6⟩; (have hr6 := below_on hr5 hb6); (have hu6c := hu6); obtain ⟨q6, s6, c6, rfl, hs6, hc6⟩ := hu6c; (have Hu6 := Hid.mk' hu6); (have Hu7 := Hid.mk' (Hu5.out.keep (keep_below hb6))); clear hu6 hs6 hc6))
      have hb6' := below_on hB1 hr6
      obtain ⟨qa, sa5, ca5, ea, hsa5, hca5⟩ := Hu7.out
      obtain ⟨qb, sb6, cb6, eb, hsb6, hcb6⟩ := Hu6.out
      injection ea with ea1 ea2 ea3
      injection eb with eb1 eb2 eb3
      subst ea1; subst ea3; subst eb1; subst eb3
      clear ea2 eb2 Hu5 Hu6 Hu7
      have Hca := Hid.mk' hca5
      have Hcb := Hid.mk' hcb6
      clear hca5 hcb6
      obtain ⟨N, hN⟩ : ∃ N, N = rs.length := ⟨_, rfl⟩
      have HN := Hid.mk' hN
      rw [← hN] at hrl hsa5 hsb6 ⊢
      clear hN
      go_loopw [13] (fun i wr => ∃ k : Nat, k ≤ N ∧ i = .int .i64 k ∧ Hid (∀ p u, W6.cell? p = some u → wr.cell? p = some u) ∧ Below w.heap.size w wr) (fun i _ => N - (intOf i).toNat)
      case atStart => exact ⟨0, Nat.zero_le _, rfl, Hid.mk' (fun _ _ h => h), hb6'⟩
      case round =>
        obtain ⟨k, hk, rfl, hkeep, hBr⟩ := hrel
        by_cases hlt : k < N
        · obtain rfl := hsa5 (by omega)
          obtain rfl := hsb6 (by omega)
          obtain ⟨a1, qa', sqa, cqa, a2, a3, a4⟩ := Hca.out k (by rw [← HN.out]; exact hlt)
          obtain ⟨b1', qb', sqb, cqb, b2, b3, b4⟩ := Hcb.out k (by rw [← HN.out]; exact hlt)
          replace a1 := hkeep.out _ _ a1
          replace a2 := hkeep.out _ _ a2
          replace b1' := hkeep.out _ _ b1'
          replace b2 := hkeep.out _ _ b2
          have hBA : Bs wr (.slice sqa (rn rs k).bs.length cqa) (rn rs k).bs.length (fun j => (rn rs k).bs.getD j 0) := ⟨qa', 0, sqa, cqa, rfl, a3, fun j hj => by rw [Nat.zero_add]; exact hkeep.out _ _ (a4 j hj)⟩
          have hBB : Bs wr (.slice sqb (rn rs k).bs.length cqb) (rn rs k).bs.length (fun j => (rn rs k).bs.getD j 0) := ⟨qb', 0, sqb, cqb, rfl, b3, fun j hj => by rw [Nat.zero_add]; exact hkeep.out _ _ (b4 j hj)⟩
          have hrk : (rn rs k).bs.length ≤ 65536 := hrl.2 _ (by
            have h2 : k < rs.length := by rw [← HN.out]; exact hlt
            have : rn rs k = rs[k] := by unfold rn; rw [List.getD_eq_getElem?_getD, List.getElem?_eq_getElem h2]; rfl
            rw [this]; exact List.getElem_mem h2)
          have hCall : ∀ n, Calls Tryd.prog 18 #[.slice sqa (rn rs k).bs.length cqa, .slice sqb (rn rs k).bs.length cqb] (wr.drewN n) fun e w' => e = .returned (.bool true) ∧ ∃ p, w' = (wr.drewN n).drewN p := fun n => rbytes_same _ _ _ hrk _ _ (fun _ _ => rfl) _ (bs_drewN hBA n) (bs_drewN hBB n)
          have hpb : (rn rs k).p < 65536 ∨ True := .inr trivial
          have Hcall := Hid.mk' hCall
          clear a3 a4 b3 b4 hBA hBB hCall hpb
          obtain ⟨p, hp⟩ : ∃ p, (rn rs k).p = p := ⟨_, rfl⟩
          obtain ⟨NB, hNB⟩ : ∃ NB, (rn rs k).bs.length = NB := ⟨_, rfl⟩
          rw [hp] at a1 b1'
          rw [hNB] at a2 b2 Hcall hrk
          clear hp hNB
          have hpp : ((p : Int) != p) = false := by simp
          go_wp2
          go_quiet ((go_at_call 18; exact Calls.quiet_of (Hcall.out _)))
          go_wp2
          go_roundw
          case rel => exact ⟨k + 1, by omega, by go_num, Hid.mk' (fun p u h => by simpa using hkeep.out p u h), below_drewN hBr _⟩
          case measure => simp [intOf]; omega
        · obtain rfl : k = N := by omega
          go_wp2
          go_ret
          exact ⟨rfl, hBr⟩
    | some y =>
      have h14 := Hhas.out
      have h15 := Hfs.out y hg
      rw [hg] at h14
      have h14 : ∀ V, Below W1.heap.size W1 V → Calls Tryd.prog 14 #[.pointer (some ⟨b1, 0, none⟩), .int .u16 a] V fun e w' => e = .returned (.tuple #[.int .u8 y, .bool true]) ∧ w' = V := h14
      clear hg Hfn Hfs Hhas
      go_wp2_with (first
        | (go_at_call 9; refine (H1.out _ hr0).mono ?_; rintro e W2 ⟨rfl, hr2⟩)
        | (go_at_call 11; refine (H2.out _ hr2).mono ?_; rintro e w' ⟨rfl, rfl⟩)
        | (go_at_call 13; refine (H3.out _ hr2).mono ?_; rintro e W3 ⟨u3, rfl, hu3, hb3⟩; (have hr3 := below_on hr2 hb3); clear hb3)
        | (go_at_call 12; refine (H4.out _ _ hr3 hu3).mono ?_; rintro e W4 ⟨rfl, hb4⟩; (have hr4 := below_on hr3 hb4); clear hb4)
        | (go_at_call 14; refine (h14 _ hr4).mono ?_; rintro e w' ⟨rfl, rfl⟩)
        | (go_at_call 15; refine (h15 _ hr4).mono ?_; rintro e w' ⟨i0, rfl, hi0, ⟨x0, hx0, hxv⟩, rfl⟩; rw [← Hm.out] at hi0; obtain rfl := hsr (by omega); (have hcx := keep_below hr4 _ _ (Hcr.out i0 x0 hx0).2); rw [hxv] at hcx; clear hxv hx0)
        | (go_at_call 16; refine (H5.out _ hr4).mono ?_; rintro e W5 ⟨u5, rfl, hu5, hb5⟩; (have hr5 := below_on hr4 hb5); (have hu5c := hu5); obtain ⟨q5, s5, c5, rfl, hs5, hc5⟩ := hu5c; (have Hu5 := Hid.mk' hu5); clear hu5 hs5 hc5)
        | (go_at_call 17; refine (H6.out _ hr5).mono ?_; rintro e W6 ⟨u6, rfl, hu6, hb6⟩; (have hr6 := below_on hr5 hb6); (have hu6c := hu6); obtain ⟨q6, s6, c6, rfl, hs6, hc6⟩ := hu6c; (have Hu6 := Hid.mk' hu6); (have Hu7 := Hid.mk' (Hu5.out.keep (keep_below hb6))); clear hu6 hs6 hc6))
      have hb6' := below_on hB1 hr6
      obtain ⟨qa, sa5, ca5, ea, hsa5, hca5⟩ := Hu7.out
      obtain ⟨qb, sb6, cb6, eb, hsb6, hcb6⟩ := Hu6.out
      injection ea with ea1 ea2 ea3
      injection eb with eb1 eb2 eb3
      subst ea1; subst ea3; subst eb1; subst eb3
      clear ea2 eb2 Hu5 Hu6 Hu7
      have Hca := Hid.mk' hca5
      have Hcb := Hid.mk' hcb6
      clear hca5 hcb6
      obtain ⟨N, hN⟩ : ∃ N, N = rs.length := ⟨_, rfl⟩
      have HN := Hid.mk' hN
      rw [← hN] at hrl hsa5 hsb6 ⊢
      clear hN
      go_loopw [13] (fun i wr => ∃ k : Nat, k ≤ N ∧ i = .int .i64 k ∧ Hid (∀ p u, W6.cell? p = some u → wr.cell? p = some u) ∧ Below w.heap.size w wr) (fun i _ => N - (intOf i).toNat)
      case atStart => exact ⟨0, Nat.zero_le _, rfl, Hid.mk' (fun _ _ h => h), hb6'⟩
      case round =>
        obtain ⟨k, hk, rfl, hkeep, hBr⟩ := hrel
        by_cases hlt : k < N
        · obtain rfl := hsa5 (by omega)
          obtain rfl := hsb6 (by omega)
          obtain ⟨a1, qa', sqa, cqa, a2, a3, a4⟩ := Hca.out k (by rw [← HN.out]; exact hlt)
          obtain ⟨b1', qb', sqb, cqb, b2, b3, b4⟩ := Hcb.out k (by rw [← HN.out]; exact hlt)
          replace a1 := hkeep.out _ _ a1
          replace a2 := hkeep.out _ _ a2
          replace b1' := hkeep.out _ _ b1'
          replace b2 := hkeep.out _ _ b2
          have hBA : Bs wr (.slice sqa (rn rs k).bs.length cqa) (rn rs k).bs.length (fun j => (rn rs k).bs.getD j 0) := ⟨qa', 0, sqa, cqa, rfl, a3, fun j hj => by rw [Nat.zero_add]; exact hkeep.out _ _ (a4 j hj)⟩
          have hBB : Bs wr (.slice sqb (rn rs k).bs.length cqb) (rn rs k).bs.length (fun j => (rn rs k).bs.getD j 0) := ⟨qb', 0, sqb, cqb, rfl, b3, fun j hj => by rw [Nat.zero_add]; exact hkeep.out _ _ (b4 j hj)⟩
          have hrk : (rn rs k).bs.length ≤ 65536 := hrl.2 _ (by
            have h2 : k < rs.length := by rw [← HN.out]; exact hlt
            have : rn rs k = rs[k] := by unfold rn; rw [List.getD_eq_getElem?_getD, List.getElem?_eq_getElem h2]; rfl
            rw [this]; exact List.getElem_mem h2)
          have hCall : ∀ n, Calls Tryd.prog 18 #[.slice sqa (rn rs k).bs.length cqa, .slice sqb (rn rs k).bs.length cqb] (wr.drewN n) fun e w' => e = .returned (.bool true) ∧ ∃ p, w' = (wr.drewN n).drewN p := fun n => rbytes_same _ _ _ hrk _ _ (fun _ _ => rfl) _ (bs_drewN hBA n) (bs_drewN hBB n)
          have hpb : (rn rs k).p < 65536 ∨ True := .inr trivial
          have Hcall := Hid.mk' hCall
          clear a3 a4 b3 b4 hBA hBB hCall hpb
          obtain ⟨p, hp⟩ : ∃ p, (rn rs k).p = p := ⟨_, rfl⟩
          obtain ⟨NB, hNB⟩ : ∃ NB, (rn rs k).bs.length = NB := ⟨_, rfl⟩
          rw [hp] at a1 b1'
          rw [hNB] at a2 b2 Hcall hrk
          clear hp hNB
          have hpp : ((p : Int) != p) = false := by simp
          go_wp2
          go_quiet ((go_at_call 18; exact Calls.quiet_of (Hcall.out _)))
          go_wp2
          go_roundw
          case rel => exact ⟨k + 1, by omega, by go_num, Hid.mk' (fun p u h => by simpa using hkeep.out p u h), below_drewN hBr _⟩
          case measure => simp [intOf]; omega
        · obtain rfl : k = N := by omega
          go_wp2
          go_ret
          exact ⟨rfl, hBr⟩
end Go.Proofs.YtjodidkjpdjmoaaDoor
