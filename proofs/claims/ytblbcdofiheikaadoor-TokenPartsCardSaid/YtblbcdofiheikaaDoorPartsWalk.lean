/- TokenParts, walked: whatever the tokens, it returns true; the library's longest text is set. -/
import Derived.Test.YtblbcdofiheikaaDoorCut
import Derived.Test.YtblbcdofiheikaaDoorTokOpen
import Derived.Test.YtblbcdofiheikaaDoorSpacesWalk
import Derived.Test.YtblbcdofiheikaaDoorSame
namespace Go.Proofs.YtblbcdofiheikaaDoor
open Go.RowKit Go.Proofs.NumMath

def comma : Tok := ⟨4, [44], 0⟩
theorem join_snoc (y : Tok) (p : List Tok) : ∀ A : List (List Tok), A ≠ [] → joinM y (A ++ [p]) = joinM y A ++ y :: p
  | [], h => absurd rfl h
  | [a], _ => rfl
  | a :: b :: c, _ => by
    have ih := join_snoc y p (b :: c) (by simp)
    show a ++ y :: joinM y ((b :: c) ++ [p]) = _
    rw [ih]
    show _ = (a ++ y :: joinM y (b :: c)) ++ y :: p
    simp
theorem join_take0 (y : Tok) (P : List (List Tok)) (p : List Tok) (h : P[0]? = some p) : joinM y (P.take 1) = p := by
  cases P with
  | nil => simp at h
  | cons a b => simp at h; rw [← h]; rfl
theorem join_take (y : Tok) (P : List (List Tok)) (k : Nat) (p : List Tok) (hk : 0 < k) (h : P[k]? = some p) : joinM y (P.take (k + 1)) = joinM y (P.take k) ++ y :: p := by
  rw [List.take_add_one, h]
  have hlt := (List.getElem?_eq_some_iff.1 h).1
  exact join_snoc y p _ (fun e => by have := congrArg List.length e; rw [List.length_take] at this; simp only [List.length_nil] at this; omega)
theorem join_len (y : Tok) : ∀ (P : List (List Tok)) (k : Nat), (joinM y (P.take k)).length ≤ (joinM y P).length
  | [], k => by simp
  | [p], 0 => by simp [joinM]
  | [p], k + 1 => by simp
  | p :: q :: r, 0 => by simp [joinM]
  | p :: q :: r, 1 => by simp [joinM]
  | p :: q :: r, k + 2 => by
    have ih := join_len y (q :: r) (k + 1)
    simp only [List.take_succ_cons] at ih ⊢
    simp only [joinM, List.length_append, List.length_cons]
    omega
theorem cut_len (mk : List UInt8) : ∀ (l : List Tok) (d : Nat), (joinM ⟨4, mk, 0⟩ (cutG mk d l)).length = l.length ∧ (cutG mk d l).length ≤ l.length + 1 ∧ ∀ p ∈ cutG mk d l, p.length ≤ l.length
  | [], d => by simp [cutG, joinM]
  | x :: l, d => by
    obtain ⟨h1, h2, h3⟩ := cut_len mk l (dOn d x)
    by_cases hm : isM mk x = true ∧ dAt d x = 0
    · rw [cutG_mark mk d x l hm, joinM_nil _ _ (cutG_ne _ _ _)]
      refine ⟨by simp [h1], by simp only [List.length_cons]; omega, fun p hp => ?_⟩
      rcases List.mem_cons.1 hp with rfl | hp
      · simp
      · have := h3 p hp; simp; omega
    · rw [cutG_more mk d x l hm, joinM_glue _ _ _ (cutG_ne _ _ _)]
      cases hc : cutG mk (dOn d x) l with
      | nil => exact absurd hc (cutG_ne _ _ _)
      | cons a b =>
        rw [hc] at h1 h2 h3
        refine ⟨by first | (simp [h1]; done) | (simp [h1]; omega), by simp [glue] at h2 ⊢; omega, fun p hp => ?_⟩
        simp only [glue] at hp
        rcases List.mem_cons.1 hp with rfl | hp
        · have := h3 a (by simp); simp; omega
        · have := h3 p (by simp [hp]); simp; omega

theorem isM_kind {a : List UInt8} {x : Tok} (h : isM a x = true) : x.k = 4 := by
  unfold isM at h; simp only [Bool.and_eq_true, decide_eq_true_eq] at h; exact h.1
theorem isM_text {a : List UInt8} {x : Tok} (h : isM a x = true) : x.s = a := by
  unfold isM at h; simp only [Bool.and_eq_true, decide_eq_true_eq] at h; exact h.2
theorem take_ok {L : List Tok} {j : Nat} {x : Tok} (h : ∀ x ∈ L.take j, isM [44] x = true → x.n = 0) (hx : L[j]? = some x) (hn : isM [44] x = true → x.n = 0) : ∀ x ∈ L.take (j + 1), isM [44] x = true → x.n = 0 := by
  rw [List.take_add_one, hx]
  intro y hy
  rcases List.mem_append.1 hy with hy | hy
  · exact h y hy
  · obtain rfl : y = x := by simpa using hy
    exact hn
theorem part_row {W : World} {B : Nat} {v : Value} {ps : List Part} (h : PartsAt W B v ps) : ∃ g sp c, v = .slice sp ps.length c ∧ (0 < ps.length → sp = some ⟨g, 0, none⟩) ∧
    ∀ (i : Nat) (p : List Tok), (ps.map (·.1)).reverse[i]? = some p → ∃ pv, W.cell? ⟨g, i, none⟩ = some pv ∧ TokR W pv p := by
  obtain ⟨g, sp, c, hv, h1, _, h3⟩ := own_at h.row
  refine ⟨g, sp, c, hv, h1, fun i p hp => ?_⟩
  rw [← List.map_reverse, List.getElem?_map] at hp
  cases hy : ps.reverse[i]? with
  | none => rw [hy] at hp; cases hp
  | some y =>
    rw [hy] at hp
    simp only [Option.map_some, Option.some.injEq] at hp
    subst hp
    exact ⟨y.2, h3 i _ (pcells_at ps i y hy), tokR_of_own (h.toks y (List.mem_reverse.1 (List.mem_of_getElem? hy))) rfl⟩

set_option maxRecDepth 100000 in
set_option maxHeartbeats 4000000 in
theorem tokenParts_walk (w : World) (v : Value) (L : List Tok) (h : TokR w v L) (m : Int) (hm : MaxAt w m) : Calls Tryd.prog 6 #[v] w fun e w' => e = .returned (.bool true) ∧ Below w.heap.size w w' := by
  have hLi := fun W h => light_any v L W h
  cases hlt : lightT L
  · rw [hlt] at hLi
    obtain ⟨b, o, sp, c, rfl, hsp, hc⟩ := id h
    have HC := Lib.hid hc
    clear hc hlt
    go_enter Tryd.func6, Tryd.ntmps6
    go_wp2_with (first
      | (go_at_call 14; (with_reducible refine (hLi _ h).mono ?_); rintro e w1 ⟨rfl, rfl⟩)
      | (go_at_call 8; refine (alive_any m _ hm).mono ?_; rintro e w5 ⟨rfl, hb5⟩))
    go_ret
    exact ⟨rfl, hb5⟩
  · rw [hlt] at hLi
    have hlen : L.length ≤ 100 := by
      simp only [lightT, Bool.and_eq_true, decide_eq_true_eq] at hlt
      exact hlt.1
    clear hlt
    have hCMl : (⟨#[44]⟩ : ByteArray).data.toList = [44] := rfl
    have hOw := fun W h => own_any v L W h (by omega)
    have hCut := fun v1 W h => cut_any v1 L ⟨#[44]⟩ W h (by omega)
    rw [hCMl] at hCut
    have hcp := cut_parts [44] (by decide) L
    obtain ⟨P, hP⟩ : ∃ P, cutL [44] L = P := ⟨_, rfl⟩
    rw [hP] at hCut hcp
    obtain ⟨hj1, hj2, hj3⟩ := cut_len [44] L 0
    have hPl : P.length ≤ 101 ∧ (∀ p ∈ P, p.length ≤ 100) ∧ (joinM comma P).length ≤ 100 := by
      rw [← hP]
      unfold cutL
      by_cases e : L = []
      · rw [if_pos e]; simp [joinM]
      · rw [if_neg e]
        exact ⟨by omega, fun p hp => Nat.le_trans (hj3 p hp) hlen, by unfold comma; omega⟩
    obtain ⟨hPl1, hPl2, hPl3⟩ := hPl
    have hC1 : ∀ (p : List Tok), p ∈ P → p ≠ [] → ∀ (pv : Value) (W : World), TokR W pv p → Calls Tryd.prog 15 #[pv, .string ⟨#[44]⟩] W fun e w' => ∃ sp c, e = .returned (.slice sp 1 c) ∧ Below W.heap.size W w' := fun p hp hne pv W hr => by
      refine (cut_any pv p ⟨#[44]⟩ W hr (by have := hPl2 p hp; omega)).mono ?_
      rintro e w' ⟨v', ps, rfl, hps, hpa, hb⟩
      rw [hCMl] at hps
      have hl1 : ps.length = 1 := by
        have e1 := hcp p hp hne
        rw [← hps] at e1
        simpa using e1
      obtain ⟨g, sp, c, rfl, _⟩ := part_row hpa
      rw [hl1]
      exact ⟨sp, c, rfl, hb⟩
    have hCut2 : ∀ v1 W, TokR W v1 L → Calls Tryd.prog 15 #[v1, .string ⟨#[44]⟩] W fun e w' => ∃ g sp c, e = .returned (.slice sp P.length c) ∧ (0 < P.length → sp = some ⟨g, 0, none⟩) ∧
        Hid (∀ (i : Nat) (p : List Tok), P[i]? = some p → ∃ pv, w'.cell? ⟨g, i, none⟩ = some pv ∧ TokR w' pv p) ∧ Below W.heap.size W w' := fun v1 W hr => by
      refine (hCut v1 W hr).mono ?_
      rintro e w' ⟨v', ps, rfl, hps, hpa, hb⟩
      have hl1 : ps.length = P.length := by rw [← hps]; simp
      obtain ⟨g, sp, c, rfl, h1, h2⟩ := part_row hpa
      rw [hps] at h2
      rw [hl1] at h1 ⊢
      exact ⟨g, sp, c, rfl, h1, Lib.hid h2, hb⟩
    have HC1 := Lib.hid hC1
    have HP := Lib.hid hP
    have HPl2 := Lib.hid hPl2
    have HPl3 := Lib.hid hPl3
    obtain ⟨np, hnp⟩ : ∃ np, P.length = np := ⟨_, rfl⟩
    rw [hnp] at hCut2 hPl1
    have HNP := Lib.hid hnp
    obtain ⟨b, o, sp, c, rfl, hsp, hc⟩ := id h
    obtain ⟨n, hn⟩ : ∃ n, L.length = n := ⟨_, rfl⟩
    rw [hn] at hLi hOw h hsp hlen ⊢
    have HN := Lib.hid hn
    have HC := Lib.hid hc
    clear hCut hC1 hP hPl2 hPl3 hnp hn hc hcp hj1 hj2 hj3 hCMl
    go_enter Tryd.func6, Tryd.ntmps6
    go_wp2_with (first
      | (go_at_call 14; (with_reducible refine (hLi _ h).mono ?_); rintro e w1 ⟨rfl, rfl⟩)
      | (go_at_call 16; (with_reducible refine (hOw _ h).mono ?_); rintro e w1 ⟨v1, rfl, hown1, hb1⟩; have r1 := tokR_of_own hown1 HN.out)
      | (go_at_call 15; (with_reducible refine (hCut2 v1 _ r1).mono ?_); rintro e w2 ⟨g, sp2, c2, rfl, hsp2, HCP, hb2⟩; have hB2 := below_step hb1 hb2))
    go_loopw [4, 5] (fun mv i wr => ∃ (k q : Nat), k ≤ np ∧ i = .int .i64 k ∧ q ≤ 100 ∧ wr.ownsRow w2.heap.size 41 3 mv q (toks (joinM comma (P.take k))) ∧ Below w2.heap.size w2 wr) (fun _ i _ => np - (intOf i).toNat)
    case atStart => exact ⟨0, 0, by omega, rfl, by omega, World.ownsRow_nil _ _ _ _, Below.refl _ _⟩
    case round =>
      obtain ⟨k, q, hk, rfl, hq, hown, hB⟩ := hrel
      have hbase := hB.size
      obtain ⟨sq, cq, rfl⟩ := own_slice hown
      by_cases hlt : k < np
      · obtain rfl := hsp2 (by omega)
        obtain ⟨p, hp⟩ : ∃ p, P[k]? = some p := ⟨_, List.getElem?_eq_getElem (by rw [HNP.out]; exact hlt)⟩
        obtain ⟨pv, hcell, hrp⟩ := HCP.out k p hp
        have hpmem := List.mem_of_getElem? hp
        have hpl := HPl2.out p hpmem
        have hjl : (joinM comma (P.take (k + 1))).length ≤ 100 := Nat.le_trans (join_len comma P (k + 1)) HPl3.out
        obtain ⟨b', o', spv, cpv, hpv, hr2, hr3⟩ := id hrp
        subst hpv
        have HC1p := fun (hne : p ≠ []) W hr => HC1.out p hpmem hne (.slice spv p.length cpv) W hr
        have HJ : Hid (0 < k → joinM comma (P.take (k + 1)) = joinM comma (P.take k) ++ comma :: p) := Lib.hid (fun hk => join_take comma P k p hk hp)
        have HPk := Lib.hid hp
        have HJL := Lib.hid hjl
        clear hp hpmem hr2 hr3 hjl
        have hcellw := hcell
        replace hcell := keep_below hB _ _ hcell
        have hBk := fun W hr => back_any (.slice spv p.length cpv) p W hr (by omega)
        obtain ⟨pl, hple⟩ : ∃ pl, p.length = pl := ⟨_, rfl⟩
        rw [hple] at hBk hrp hcell hcellw HC1p hpl
        have hpne' : pl ≠ 0 → p ≠ [] := fun h e => h (by rw [← hple, e]; rfl)
        have HPL := Lib.hid hple
        clear hple
        have hrw := hrp.below hB
        have hz0 : (0 : Int) ≤ (k : Int) := by omega
        by_cases hk0 : k = 0
        · subst hk0
          have HJ0 : Hid (joinM comma (P.take 1) = p) := Lib.hid (join_take0 comma P p HPk.out)
          by_cases hp0 : pl = 0
          · subst hp0
            go_wp2_with (first
              | (go_at_call 12; (with_reducible refine (hBk wr hrw).mono ?_); rintro e w4 ⟨v4, rfl, hown4, hb4⟩; have hC4 := below_step hB hb4; have hown3' := own_below hown hb4; have hs4 := hC4.size)
              | (at_builtin; refine wpList_append_toks rfl (.tmp 26) (.tmp 31) 27 41 Tryd.underlying27 zero41 rfl w2.heap.size (.slice sq q cq) q (joinM comma (P.take 0)) rfl hown3' v4 0 p _ 41 rfl hown4 (by omega) hs4 ?_; intro v5 w5 hown5 hB5 _; have hC5 := hC4.trans hB5; have hcell5 := keep_below hC5 _ _ hcellw; have hr5 := hrp.below hC5))
            have hM : joinM comma (P.take (0 + 1)) = joinM comma (P.take 0) ++ p := by rw [HJ0.out]; rfl
            have hq2 : q + 0 ≤ 100 := by
              have h1 := hown5.1
              have h2 := HJL.out
              rw [toks_len, ← hM] at h1
              omega
            rw [← hM] at hown5
            exact ⟨⟨0 + 1, _, by omega, by go_num, hq2, hown5, hC5⟩, by simp [intOf]; omega⟩
          · have hpne := hpne' hp0
            have hpd : decide ((0 : Int) < (pl : Int)) = true := decide_eq_true (by omega)
            go_wp2_with (first
              | (go_at_call 12; (with_reducible refine (hBk wr hrw).mono ?_); rintro e w4 ⟨v4, rfl, hown4, hb4⟩; have hC4 := below_step hB hb4; have hown3' := own_below hown hb4; have hs4 := hC4.size)
              | (at_builtin; refine wpList_append_toks rfl (.tmp 26) (.tmp 31) 27 41 Tryd.underlying27 zero41 rfl w2.heap.size (.slice sq q cq) q (joinM comma (P.take 0)) rfl hown3' v4 pl p _ 41 rfl hown4 (by omega) hs4 ?_; intro v5 w5 hown5 hB5 _; have hC5 := hC4.trans hB5; have hcell5 := keep_below hC5 _ _ hcellw; have hr5 := hrp.below hC5)
              | (go_at_call 15; (with_reducible refine (HC1p hpne w5 hr5).mono ?_); rintro e w6 ⟨sp6, c6, rfl, hb6⟩; have hC6 := below_step hC5 hb6; have hown6 := own_below hown5 hb6))
            have hM : joinM comma (P.take (0 + 1)) = joinM comma (P.take 0) ++ p := by rw [HJ0.out]; rfl
            have hq2 : q + pl ≤ 100 := by
              have h1 := hown6.1
              have h2 := HJL.out
              rw [toks_len, ← hM] at h1
              omega
            rw [← hM] at hown6
            exact ⟨⟨0 + 1, _, by omega, by go_num, hq2, hown6, hC6⟩, by simp [intOf]; omega⟩
        · have hkd : decide ((0 : Int) < (k : Int)) = true := decide_eq_true (by omega)
          by_cases hp0 : pl = 0
          · subst hp0
            go_wp2_with (first
              | (at_builtin; refine wpList_append_tok (k := wr.heap.size) (c := 1) (y := comma) (t' := 41) (fr := (0, 0)) rfl (.tmp 22) (.tmp 24) 27 41 Tryd.underlying27 zero41 rfl w2.heap.size (.slice sq q cq) q (joinM comma (P.take k)) rfl (own_below hown ((Below.refl _ _).alloc (Nat.le_refl _) _)) (by omega) _ _ _ rfl (at_new wr _) rfl (by simp; omega) ?_; intro v3 w3 hown3 hB3 _; have hC3 := (hB.alloc hbase (.cells #[.int .i64 4, .string ⟨#[44]⟩, .int .u16 0] 41)).trans hB3; have hs3 := hC3.size; have hcell3 := keep_below hC3 _ _ hcellw; have hr3 := hrp.below hC3)
              | (go_at_call 12; (with_reducible refine (hBk w3 hr3).mono ?_); rintro e w4 ⟨v4, rfl, hown4, hb4⟩; have hC4 := below_step hC3 hb4; have hown3' := own_below hown3 hb4; have hs4 := hC4.size)
              | (at_builtin; refine wpList_append_toks rfl (.tmp 26) (.tmp 31) 27 41 Tryd.underlying27 zero41 rfl w2.heap.size v3 (q + 1) (joinM comma (P.take k) ++ [comma]) rfl hown3' v4 0 p _ 41 rfl hown4 (by omega) hs4 ?_; intro v5 w5 hown5 hB5 _; have hC5 := hC4.trans hB5; have hcell5 := keep_below hC5 _ _ hcellw; have hr5 := hrp.below hC5))
            have hM : joinM comma (P.take (k + 1)) = joinM comma (P.take k) ++ [comma] ++ p := by rw [HJ.out (by omega)]; simp
            have hq2 : q + 1 + 0 ≤ 100 := by
              have h1 := hown5.1
              have h2 := HJL.out
              rw [toks_len, ← hM] at h1
              omega
            rw [← hM] at hown5
            exact ⟨⟨k + 1, _, by omega, by go_num, hq2, hown5, hC5⟩, by simp [intOf]; omega⟩
          · have hpne := hpne' hp0
            have hpd : decide ((0 : Int) < (pl : Int)) = true := decide_eq_true (by omega)
            go_wp2_with (first
              | (at_builtin; refine wpList_append_tok (k := wr.heap.size) (c := 1) (y := comma) (t' := 41) (fr := (0, 0)) rfl (.tmp 22) (.tmp 24) 27 41 Tryd.underlying27 zero41 rfl w2.heap.size (.slice sq q cq) q (joinM comma (P.take k)) rfl (own_below hown ((Below.refl _ _).alloc (Nat.le_refl _) _)) (by omega) _ _ _ rfl (at_new wr _) rfl (by simp; omega) ?_; intro v3 w3 hown3 hB3 _; have hC3 := (hB.alloc hbase (.cells #[.int .i64 4, .string ⟨#[44]⟩, .int .u16 0] 41)).trans hB3; have hs3 := hC3.size; have hcell3 := keep_below hC3 _ _ hcellw; have hr3 := hrp.below hC3)
              | (go_at_call 12; (with_reducible refine (hBk w3 hr3).mono ?_); rintro e w4 ⟨v4, rfl, hown4, hb4⟩; have hC4 := below_step hC3 hb4; have hown3' := own_below hown3 hb4; have hs4 := hC4.size)
              | (at_builtin; refine wpList_append_toks rfl (.tmp 26) (.tmp 31) 27 41 Tryd.underlying27 zero41 rfl w2.heap.size v3 (q + 1) (joinM comma (P.take k) ++ [comma]) rfl hown3' v4 pl p _ 41 rfl hown4 (by omega) hs4 ?_; intro v5 w5 hown5 hB5 _; have hC5 := hC4.trans hB5; have hcell5 := keep_below hC5 _ _ hcellw; have hr5 := hrp.below hC5)
              | (go_at_call 15; (with_reducible refine (HC1p hpne w5 hr5).mono ?_); rintro e w6 ⟨sp6, c6, rfl, hb6⟩; have hC6 := below_step hC5 hb6; have hown6 := own_below hown5 hb6))
            have hM : joinM comma (P.take (k + 1)) = joinM comma (P.take k) ++ [comma] ++ p := by rw [HJ.out (by omega)]; simp
            have hq2 : q + 1 + pl ≤ 100 := by
              have h1 := hown6.1
              have h2 := HJL.out
              rw [toks_len, ← hM] at h1
              omega
            rw [← hM] at hown6
            exact ⟨⟨k + 1, _, by omega, by go_num, hq2, hown6, hC6⟩, by simp [intOf]; omega⟩
      · obtain rfl : k = np := by omega
        rw [List.take_of_length_le (by rw [HNP.out]; exact Nat.le_refl _)] at hown
        have hBw := below_step hB2 hB
        have hmr := hm.below hBw
        have hrv := h.below hBw
        by_cases hn0 : n = 0
        · subst hn0
          have hL0 : L = [] := List.eq_nil_of_length_eq_zero HN.out
          have hk0 : k = 0 := by
            have e1 := HP.out
            rw [hL0] at e1
            have e2 : P = [] := e1.symm
            rw [← HNP.out, e2]; rfl
          subst hk0
          clear hL0
          go_wp2_with (go_at_call 8; refine (alive_any m _ hmr).mono ?_; rintro e w5 ⟨rfl, hb5⟩)
          go_ret
          exact ⟨rfl, below_step hBw hb5⟩
        · obtain rfl := hsp (by omega)
          go_wp2
          go_loop [6] (fun i => ∃ j : Nat, j ≤ n ∧ i = .int .i64 j ∧ Hid (∀ x ∈ L.take j, isM [44] x = true → x.n = 0)) (fun i => n - (intOf i).toNat)
          case atStart => exact ⟨0, by omega, rfl, Lib.hid (by simp)⟩
          case round =>
            obtain ⟨j, hj, rfl, HQ⟩ := hrel
            by_cases hlt2 : j < n
            · obtain ⟨x, hx⟩ : ∃ x, L[j]? = some x := ⟨_, List.getElem?_eq_getElem (by rw [HN.out]; exact hlt2)⟩
              obtain ⟨x1, x2, x3⟩ := HC.out j x hx
              replace x1 := keep_below hBw _ _ x1
              replace x2 := keep_below hBw _ _ x2
              replace x3 := keep_below hBw _ _ x3
              have HX := Lib.hid hx
              clear hx
              by_cases h4 : x.k = 4
              · rw [h4] at x1
                by_cases hs : x.s = [44]
                · rw [hs] at x2
                  by_cases hn : x.n = 0
                  · rw [hn] at x3
                    go_wp2
                    exact ⟨⟨j + 1, by omega, by go_num, Lib.hid (take_ok HQ.out HX.out (fun _ => hn))⟩, by simp [intOf]; omega⟩
                  · have hnn : ((x.n : Int) != 0) = true := by simp; omega
                    go_wp2_with (go_at_call 8; refine (alive_any m _ hmr).mono ?_; rintro e w5 ⟨rfl, hb5⟩)
                    go_ret
                    exact ⟨rfl, below_step hBw hb5⟩
                · have hsb : ((⟨x.s.toArray⟩ : ByteArray).toList == (⟨#[44]⟩ : ByteArray).toList) = false := by
                    have := str_beq x.s [44]
                    rw [this]; exact decide_eq_false hs
                  go_wp2
                  exact ⟨⟨j + 1, by omega, by go_num, Lib.hid (take_ok HQ.out HX.out (fun h => absurd (isM_text h) hs))⟩, by simp [intOf]; omega⟩
              · have h4n : (x.k == 4) = false := by rw [beq_eq_false_iff_ne]; exact h4
                go_wp2
                exact ⟨⟨j + 1, by omega, by go_num, Lib.hid (take_ok HQ.out HX.out (fun h => absurd (isM_kind h) h4))⟩, by simp [intOf]; omega⟩
            · obtain rfl : j = n := by omega
              have hq := HQ.out
              rw [List.take_of_length_le (by rw [HN.out]; exact Nat.le_refl _)] at hq
              have hjoin : joinM comma P = L := by
                rw [← HP.out]
                unfold cutL
                rw [if_neg (fun e => hn0 (by rw [← HN.out, e]; rfl))]
                exact join_cut [44] L 0 hq
              rw [hjoin] at hown
              have hql : L.length = q := by have h1 := hown.1; rw [toks_len] at h1; omega
              have hS := same_self _ _ L wr (tokR_of_own hown hql) hrv (by rw [hql]; omega)
              clear hjoin hq hown
              go_wp2_with (first
                | (go_at_call 11; (with_reducible refine hS.mono ?_); rintro e w4 ⟨rfl, hb4⟩; have hm4 := hmr.below hb4; have hB4 := below_step hBw hb4)
                | (go_at_call 8; refine (alive_any m _ hm4).mono ?_; rintro e w5 ⟨rfl, hb5⟩; have hB5 := below_step hB4 hb5))
              go_ret
              exact ⟨rfl, hB5⟩
end Go.Proofs.YtblbcdofiheikaaDoor
