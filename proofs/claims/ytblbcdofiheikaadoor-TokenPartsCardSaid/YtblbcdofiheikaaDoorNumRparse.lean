/- What the document's Parse does when it is called: it answers the number of a text, or why there is none; a text is shorter than 140737488355328 bytes. -/
import Derived.Test.YtblbcdofiheikaaDoorNumOwn
namespace Go.Proofs.YtblbcdofiheikaaDoor
open Go.RowKit Go.Proofs.NumMath

theorem baseOf_up (n : Nat) : baseOf (upN n) = baseOf n := by
  unfold baseOf upN
  repeat' split
  all_goals omega
theorem digit_base (n : Nat) (h : dg n < 10) : baseOf n = 0 := by
  revert h
  unfold baseOf dg
  repeat' split
  all_goals omega
theorem lastN_up (l : List UInt8) : lastN (upL l) = upN (lastN l) := by
  unfold lastN upL
  rw [List.getLast?_map]
  cases l.getLast? with
  | none => rfl
  | some c => exact up_toNat c
theorem baseL_of (l : List UInt8) : baseOf (upN (lastN l)) = baseOf (lastN l) := baseOf_up _
/-- where the first byte is no digit there is no number -/
theorem parse_no (l : List UInt8) (h : 10 ≤ dg (headN l)) : parseL l = (0, 2) := by
  refine parse_syn l ?_
  unfold digsL
  split
  · exact h
  · cases l with
    | nil => exact h
    | cons c t =>
      cases t with
      | nil => simp [headN, dg]
      | cons d t => exact h
/-- where it is one, the digits begin with it -/
theorem head_digs (l : List UInt8) (h : dg (headN l) < 10) : headN (digsL l) = headN l := by
  unfold digsL
  split
  · rfl
  · rename_i hb
    cases l with
    | nil => rfl
    | cons c t =>
      cases t with
      | nil =>
        exfalso
        apply hb
        show baseOf c.toNat = 0
        have h' : dg c.toNat < 10 := h
        exact digit_base _ h'
      | cons d t => rfl
theorem head_up (l : List UInt8) : headN (upL l) = upN (headN l) := by
  cases l with
  | nil => rfl
  | cons c t => exact up_toNat c
theorem dg_up_iff (n : Nat) : dg n < 10 ↔ 48 ≤ upN n ∧ upN n ≤ 57 := by
  unfold dg upN
  repeat' split
  all_goals omega
theorem upB_at (D d : ByteArray) (h : D.data.toList = d.data.toList.map up) (k : Nat) (hk : k < d.size) (hk2 : k < D.size) : (D[k]'hk2).toNat = upN (d[k]'hk).toNat := by
  have e : D.data.toList[k]? = (d.data.toList.map up)[k]? := by rw [h]
  have h1 : D.data.toList[k]? = some (D[k]'hk2) := by rw [List.getElem?_eq_getElem (by rw [data_size]; exact hk2)]; rfl
  have h2 : d.data.toList[k]? = some (d[k]'hk) := by rw [List.getElem?_eq_getElem (by rw [data_size]; exact hk)]; rfl
  rw [List.getElem?_map, h1, h2] at e
  have := Option.some.inj e
  rw [this, up_toNat]
set_option maxHeartbeats 4000000 in
theorem rparse_any (s : ByteArray) (hs : s.size < 140737488355328) (w : World) : Calls Tryd.prog 47 #[.string s] w fun e w' =>
    e = .returned (.tuple #[.int .u16 ((parseL s.data.toList).1 : Nat), .int .i64 ((parseL s.data.toList).2 : Nat)]) ∧ Below w.heap.size w w' := by
  have hU := rupper_any s hs
  obtain ⟨T, hT⟩ : ∃ T : ByteArray, (⟨(upL s.data.toList).toArray⟩ : ByteArray) = T := ⟨_, rfl⟩
  have hTd : T.data.toList = upL s.data.toList := by rw [← hT]
  have hTs : T.size = s.size := by rw [← data_size, hTd]; simp [upL]
  have hTle : T.size < 140737488355328 := by omega
  rw [hT] at hU
  by_cases h0 : s.size = 0
  · obtain rfl : s = ByteArray.empty := by simpa using h0
    have hT0 : T.size = 0 := by rw [hTs]; rfl
    have HP := Lib.hid (show parseL ByteArray.empty.data.toList = (0, 2) by decide)
    clear hT hTd hTs
    go_enter Tryd.func47, Tryd.ntmps47
    go_wp2_with (go_at_call 45; refine (hU _).mono ?_; rintro e w' ⟨rfl, hb⟩)
    go_ret2
    exact ⟨ret_parse (by rw [HP.out]; rfl) (by rw [HP.out]; rfl), hb⟩
  · have hT1 : 0 < T.size := by omega
    have hx := headN_at T hT1
    rw [hTd, head_up] at hx
    have hz : ((T.size : Int) == 0) = false := by rw [beq_eq_false_iff_ne]; omega
    by_cases hdig : dg (headN s.data.toList) < 10
    · have hdd := (dg_up_iff _).1 hdig
      rw [hx] at hdd
      obtain ⟨hd1, hd2⟩ := hdd
      have hval := Lib.hid (parse_val s.data.toList (by rw [head_digs _ hdig]; omega))
      have hlast := lastN_at T (Nat.sub_lt hT1 Nat.one_pos)
      rw [hTd, lastN_up] at hlast
      have hbu := baseL_of s.data.toList
      have hbl : baseL s.data.toList = if baseOf (upN (lastN s.data.toList)) = 0 then 10 else baseOf (upN (lastN s.data.toList)) := by rw [hbu]; rfl
      have hgl : digsB s = if baseOf (upN (lastN s.data.toList)) = 0 then s else s.extract 0 (s.size - 1) := by rw [hbu]; rfl
      have hdB := digsB_data s
      rw [← hdB] at hval
      obtain ⟨y, hy⟩ : ∃ y, T[T.size - 1]'(Nat.sub_lt hT1 Nat.one_pos) = y := ⟨_, rfl⟩
      obtain ⟨x, hxx⟩ : ∃ x, T[0]'hT1 = x := ⟨_, rfl⟩
      rw [hy] at hlast
      rw [hxx] at hd1 hd2
      rw [hlast] at hbl hgl
      have hx8 := x.toNat_lt
      have hy8 := y.toNat_lt
      obtain ⟨P, hP⟩ : ∃ P, parseL s.data.toList = P := ⟨_, rfl⟩
      rw [hP] at hval ⊢
      have hTsh := Lib.hid hTs
      have hyc : y.toNat = 72 ∨ y.toNat = 79 ∨ y.toNat = 81 ∨ y.toNat = 66 ∨ y.toNat = 68 ∨ (y.toNat ≠ 72 ∧ y.toNat ≠ 79 ∧ y.toNat ≠ 81 ∧ y.toNat ≠ 66 ∧ y.toNat ≠ 68) := by omega
      have hb0 : (y.toNat ≠ 72 ∧ y.toNat ≠ 79 ∧ y.toNat ≠ 81 ∧ y.toNat ≠ 66 ∧ y.toNat ≠ 68) → baseOf y.toNat = 0 := by
        intro h
        have hu : upN (lastN s.data.toList) = y.toNat := hlast
        have : ¬ (97 ≤ y.toNat ∧ y.toNat ≤ 122) := by rw [← hu]; unfold upN; split <;> omega
        unfold baseOf
        repeat' split
        all_goals omega
      have hex : (T.extract 0 (T.size - 1)).data.toList = (s.extract 0 (s.size - 1)).data.toList.map up ∧ (T.extract 0 (T.size - 1)).size = (s.extract 0 (s.size - 1)).size := by
        have e : T.size = s.size := hTs
        refine ⟨?_, by simp; omega⟩
        simp only [ByteArray.data_extract, Array.toList_extract, List.extract_eq_take_drop, List.drop_zero, Nat.sub_zero]
        rw [hTd, e]
        simp [upL, List.map_take]
      have hex0 : T.data.toList = s.data.toList.map up ∧ T.size = s.size := ⟨hTd, hTs⟩
      have HE := Lib.hid hex
      have HE0 := Lib.hid hex0
      have HB := Lib.hid hbl
      have HGl := Lib.hid hgl
      clear hT hx hdig hlast hbu hP hTs hdB hTd hex hex0 hbl hgl hTsh h0
      rcases hyc with h | h | h | h | h | h
      · have hb : baseOf y.toNat = 16 := by rw [h]; rfl
        have e1 := HB.out
        have e2 := HGl.out
        rw [hb, if_neg (by omega)] at e1 e2
        rw [e1, e2] at hval
        obtain ⟨hDd, hDs⟩ := HE.out
        clear e1 e2 hb hb0 HB HGl HE HE0
        go_enter Tryd.func47, Tryd.ntmps47
        go_wp2_with (go_at_call 45; refine (hU _).mono ?_; rintro e w0 ⟨rfl, hb⟩)
        obtain ⟨D, hDD⟩ : ∃ D, T.extract 0 (T.size - 1) = D := ⟨_, rfl⟩
        obtain ⟨d, hdd⟩ : ∃ d, s.extract 0 (s.size - 1) = d := ⟨_, rfl⟩
        rw [hDD] at hDd hDs ⊢
        rw [hdd] at hDd hDs hval
        have HD := Lib.hid hDd
        have hDs1 : D.size ≤ d.size := by omega
        have hDs2 : d.size ≤ D.size := by omega
        have hdle : d.size < 140737488355328 := by rw [← hdd]; simp; omega
        clear hDD hdd hDd hDs h hU
        go_loop [8, 9, 10] (fun n o i => ∃ k m : Nat, k ≤ d.size ∧ i = .int .i64 k ∧ n = .int .i64 m ∧ m ≤ 65536 ∧ o = .bool (decide (65535 < m)) ∧ evalL 16 m (d.data.toList.drop k) = evalL 16 0 d.data.toList) (fun _ _ i => d.size - (intOf i).toNat)
        case atStart => exact ⟨0, 0, by omega, rfl, rfl, by omega, rfl, rfl⟩
        case round =>
          obtain ⟨k, m, hk, rfl, rfl, hm, rfl, hev⟩ := hrel
          have HE := Lib.hid hev
          clear hev
          by_cases hlt : k < d.size
          · have hlt2 : k < D.size := by omega
            have hz := upB_at D d HD.out k hlt hlt2
            obtain ⟨z, hzz⟩ : ∃ z, D[k]'hlt2 = z := ⟨_, rfl⟩
            obtain ⟨r, hrr⟩ : ∃ r, d[k]'hlt = r := ⟨_, rfl⟩
            have hz8 := z.toNat_lt
            have hr8 := r.toNat_lt
            have hdr := drop_at d k hlt
            rw [hrr] at hdr hz
            rw [hzz] at hz
            have hv := digit_any r.toNat (by omega)
            rw [← hz] at hv
            have hdl := dg_le r.toNat
            have HX : Hid (evalL 16 0 d.data.toList = if dg r.toNat < 16 then evalL 16 (min (m * 16 + dg r.toNat) 65536) (d.data.toList.drop (k + 1)) else none) := by
              rw [← HE.out, hdr, evalL]; exact Lib.hid rfl
            obtain ⟨v, hvv⟩ : ∃ v, dg r.toNat = v := ⟨_, rfl⟩
            rw [hvv] at HX hdl
            have hdv : digV r.toNat = if v < 16 then (v : Int) else -1 := by unfold digV; rw [hvv]
            clear hdr hz HE hvv hrr
            by_cases hvb : v < 16
            · rw [if_pos (by omega)] at hdv
              rw [hdv] at hv
              clear hdv
              have e1 := HX.out
              rw [if_pos hvb] at e1
              have HX2 := Lib.hid e1
              clear e1 HX
              by_cases hov : 65535 < m * 16 + v
              all_goals
                go_wp2_with (go_at_call 67; refine (hv _).mono ?_; rintro e w' ⟨rfl, rfl⟩)
              · go_round
                case rel => exact ⟨k + 1, 65536, by omega, by go_num, rfl, by omega, by simp, by rw [HX2.out, show min (m * 16 + v) 65536 = 65536 by omega]⟩
                case measure => simp [intOf]; omega
              · go_round
                case rel => exact ⟨k + 1, m * 16 + v, by omega, by go_num, by go_num, by omega, by simp; omega, by rw [HX2.out, show min (m * 16 + v) 65536 = m * 16 + v by omega]⟩
                case measure => simp [intOf]; omega
            · have e1 := HX.out
              rw [if_neg hvb] at e1
              have e2 := hval.out
              rw [e1] at e2
              have HP := Lib.hid e2
              clear e1 e2 HX
              by_cases hv16 : v < 16
              all_goals try (exfalso; omega)
              all_goals
                first | rw [if_pos hv16] at hdv | rw [if_neg hv16] at hdv
                rw [hdv] at hv
                clear hdv
                go_wp2_with (go_at_call 67; refine (hv _).mono ?_; rintro e w' ⟨rfl, rfl⟩)
                go_ret2
                exact ⟨ret_parse (by rw [HP.out]; rfl) (by rw [HP.out]; rfl), hb⟩
          · obtain rfl : k = d.size := by omega
            have e1 := HE.out
            rw [drop_end d d.size (by omega), evalL] at e1
            have e2 := hval.out
            rw [← e1] at e2
            have HP := Lib.hid e2
            clear e1 e2 HE
            by_cases hmm : 65535 < m
            all_goals
              go_wp2
              go_ret2
              have e := HP.out
              simp only [finL, hmm, if_true, if_false] at e
              exact ⟨ret_parse (by rw [e]; first | done | rfl | omega) (by rw [e]; first | done | rfl), hb⟩
      · have hb : baseOf y.toNat = 8 := by rw [h]; rfl
        have e1 := HB.out
        have e2 := HGl.out
        rw [hb, if_neg (by omega)] at e1 e2
        rw [e1, e2] at hval
        obtain ⟨hDd, hDs⟩ := HE.out
        clear e1 e2 hb hb0 HB HGl HE HE0
        go_enter Tryd.func47, Tryd.ntmps47
        go_wp2_with (go_at_call 45; refine (hU _).mono ?_; rintro e w0 ⟨rfl, hb⟩)
        obtain ⟨D, hDD⟩ : ∃ D, T.extract 0 (T.size - 1) = D := ⟨_, rfl⟩
        obtain ⟨d, hdd⟩ : ∃ d, s.extract 0 (s.size - 1) = d := ⟨_, rfl⟩
        rw [hDD] at hDd hDs ⊢
        rw [hdd] at hDd hDs hval
        have HD := Lib.hid hDd
        have hDs1 : D.size ≤ d.size := by omega
        have hDs2 : d.size ≤ D.size := by omega
        have hdle : d.size < 140737488355328 := by rw [← hdd]; simp; omega
        clear hDD hdd hDd hDs h hU
        go_loop [8, 9, 10] (fun n o i => ∃ k m : Nat, k ≤ d.size ∧ i = .int .i64 k ∧ n = .int .i64 m ∧ m ≤ 65536 ∧ o = .bool (decide (65535 < m)) ∧ evalL 8 m (d.data.toList.drop k) = evalL 8 0 d.data.toList) (fun _ _ i => d.size - (intOf i).toNat)
        case atStart => exact ⟨0, 0, by omega, rfl, rfl, by omega, rfl, rfl⟩
        case round =>
          obtain ⟨k, m, hk, rfl, rfl, hm, rfl, hev⟩ := hrel
          have HE := Lib.hid hev
          clear hev
          by_cases hlt : k < d.size
          · have hlt2 : k < D.size := by omega
            have hz := upB_at D d HD.out k hlt hlt2
            obtain ⟨z, hzz⟩ : ∃ z, D[k]'hlt2 = z := ⟨_, rfl⟩
            obtain ⟨r, hrr⟩ : ∃ r, d[k]'hlt = r := ⟨_, rfl⟩
            have hz8 := z.toNat_lt
            have hr8 := r.toNat_lt
            have hdr := drop_at d k hlt
            rw [hrr] at hdr hz
            rw [hzz] at hz
            have hv := digit_any r.toNat (by omega)
            rw [← hz] at hv
            have hdl := dg_le r.toNat
            have HX : Hid (evalL 8 0 d.data.toList = if dg r.toNat < 8 then evalL 8 (min (m * 8 + dg r.toNat) 65536) (d.data.toList.drop (k + 1)) else none) := by
              rw [← HE.out, hdr, evalL]; exact Lib.hid rfl
            obtain ⟨v, hvv⟩ : ∃ v, dg r.toNat = v := ⟨_, rfl⟩
            rw [hvv] at HX hdl
            have hdv : digV r.toNat = if v < 16 then (v : Int) else -1 := by unfold digV; rw [hvv]
            clear hdr hz HE hvv hrr
            by_cases hvb : v < 8
            · rw [if_pos (by omega)] at hdv
              rw [hdv] at hv
              clear hdv
              have e1 := HX.out
              rw [if_pos hvb] at e1
              have HX2 := Lib.hid e1
              clear e1 HX
              by_cases hov : 65535 < m * 8 + v
              all_goals
                go_wp2_with (go_at_call 67; refine (hv _).mono ?_; rintro e w' ⟨rfl, rfl⟩)
              · go_round
                case rel => exact ⟨k + 1, 65536, by omega, by go_num, rfl, by omega, by simp, by rw [HX2.out, show min (m * 8 + v) 65536 = 65536 by omega]⟩
                case measure => simp [intOf]; omega
              · go_round
                case rel => exact ⟨k + 1, m * 8 + v, by omega, by go_num, by go_num, by omega, by simp; omega, by rw [HX2.out, show min (m * 8 + v) 65536 = m * 8 + v by omega]⟩
                case measure => simp [intOf]; omega
            · have e1 := HX.out
              rw [if_neg hvb] at e1
              have e2 := hval.out
              rw [e1] at e2
              have HP := Lib.hid e2
              clear e1 e2 HX
              by_cases hv16 : v < 16
              all_goals try (exfalso; omega)
              all_goals
                first | rw [if_pos hv16] at hdv | rw [if_neg hv16] at hdv
                rw [hdv] at hv
                clear hdv
                go_wp2_with (go_at_call 67; refine (hv _).mono ?_; rintro e w' ⟨rfl, rfl⟩)
                go_ret2
                exact ⟨ret_parse (by rw [HP.out]; rfl) (by rw [HP.out]; rfl), hb⟩
          · obtain rfl : k = d.size := by omega
            have e1 := HE.out
            rw [drop_end d d.size (by omega), evalL] at e1
            have e2 := hval.out
            rw [← e1] at e2
            have HP := Lib.hid e2
            clear e1 e2 HE
            by_cases hmm : 65535 < m
            all_goals
              go_wp2
              go_ret2
              have e := HP.out
              simp only [finL, hmm, if_true, if_false] at e
              exact ⟨ret_parse (by rw [e]; first | done | rfl | omega) (by rw [e]; first | done | rfl), hb⟩
      · have hb : baseOf y.toNat = 8 := by rw [h]; rfl
        have e1 := HB.out
        have e2 := HGl.out
        rw [hb, if_neg (by omega)] at e1 e2
        rw [e1, e2] at hval
        obtain ⟨hDd, hDs⟩ := HE.out
        clear e1 e2 hb hb0 HB HGl HE HE0
        go_enter Tryd.func47, Tryd.ntmps47
        go_wp2_with (go_at_call 45; refine (hU _).mono ?_; rintro e w0 ⟨rfl, hb⟩)
        obtain ⟨D, hDD⟩ : ∃ D, T.extract 0 (T.size - 1) = D := ⟨_, rfl⟩
        obtain ⟨d, hdd⟩ : ∃ d, s.extract 0 (s.size - 1) = d := ⟨_, rfl⟩
        rw [hDD] at hDd hDs ⊢
        rw [hdd] at hDd hDs hval
        have HD := Lib.hid hDd
        have hDs1 : D.size ≤ d.size := by omega
        have hDs2 : d.size ≤ D.size := by omega
        have hdle : d.size < 140737488355328 := by rw [← hdd]; simp; omega
        clear hDD hdd hDd hDs h hU
        go_loop [8, 9, 10] (fun n o i => ∃ k m : Nat, k ≤ d.size ∧ i = .int .i64 k ∧ n = .int .i64 m ∧ m ≤ 65536 ∧ o = .bool (decide (65535 < m)) ∧ evalL 8 m (d.data.toList.drop k) = evalL 8 0 d.data.toList) (fun _ _ i => d.size - (intOf i).toNat)
        case atStart => exact ⟨0, 0, by omega, rfl, rfl, by omega, rfl, rfl⟩
        case round =>
          obtain ⟨k, m, hk, rfl, rfl, hm, rfl, hev⟩ := hrel
          have HE := Lib.hid hev
          clear hev
          by_cases hlt : k < d.size
          · have hlt2 : k < D.size := by omega
            have hz := upB_at D d HD.out k hlt hlt2
            obtain ⟨z, hzz⟩ : ∃ z, D[k]'hlt2 = z := ⟨_, rfl⟩
            obtain ⟨r, hrr⟩ : ∃ r, d[k]'hlt = r := ⟨_, rfl⟩
            have hz8 := z.toNat_lt
            have hr8 := r.toNat_lt
            have hdr := drop_at d k hlt
            rw [hrr] at hdr hz
            rw [hzz] at hz
            have hv := digit_any r.toNat (by omega)
            rw [← hz] at hv
            have hdl := dg_le r.toNat
            have HX : Hid (evalL 8 0 d.data.toList = if dg r.toNat < 8 then evalL 8 (min (m * 8 + dg r.toNat) 65536) (d.data.toList.drop (k + 1)) else none) := by
              rw [← HE.out, hdr, evalL]; exact Lib.hid rfl
            obtain ⟨v, hvv⟩ : ∃ v, dg r.toNat = v := ⟨_, rfl⟩
            rw [hvv] at HX hdl
            have hdv : digV r.toNat = if v < 16 then (v : Int) else -1 := by unfold digV; rw [hvv]
            clear hdr hz HE hvv hrr
            by_cases hvb : v < 8
            · rw [if_pos (by omega)] at hdv
              rw [hdv] at hv
              clear hdv
              have e1 := HX.out
              rw [if_pos hvb] at e1
              have HX2 := Lib.hid e1
              clear e1 HX
              by_cases hov : 65535 < m * 8 + v
              all_goals
                go_wp2_with (go_at_call 67; refine (hv _).mono ?_; rintro e w' ⟨rfl, rfl⟩)
              · go_round
                case rel => exact ⟨k + 1, 65536, by omega, by go_num, rfl, by omega, by simp, by rw [HX2.out, show min (m * 8 + v) 65536 = 65536 by omega]⟩
                case measure => simp [intOf]; omega
              · go_round
                case rel => exact ⟨k + 1, m * 8 + v, by omega, by go_num, by go_num, by omega, by simp; omega, by rw [HX2.out, show min (m * 8 + v) 65536 = m * 8 + v by omega]⟩
                case measure => simp [intOf]; omega
            · have e1 := HX.out
              rw [if_neg hvb] at e1
              have e2 := hval.out
              rw [e1] at e2
              have HP := Lib.hid e2
              clear e1 e2 HX
              by_cases hv16 : v < 16
              all_goals try (exfalso; omega)
              all_goals
                first | rw [if_pos hv16] at hdv | rw [if_neg hv16] at hdv
                rw [hdv] at hv
                clear hdv
                go_wp2_with (go_at_call 67; refine (hv _).mono ?_; rintro e w' ⟨rfl, rfl⟩)
                go_ret2
                exact ⟨ret_parse (by rw [HP.out]; rfl) (by rw [HP.out]; rfl), hb⟩
          · obtain rfl : k = d.size := by omega
            have e1 := HE.out
            rw [drop_end d d.size (by omega), evalL] at e1
            have e2 := hval.out
            rw [← e1] at e2
            have HP := Lib.hid e2
            clear e1 e2 HE
            by_cases hmm : 65535 < m
            all_goals
              go_wp2
              go_ret2
              have e := HP.out
              simp only [finL, hmm, if_true, if_false] at e
              exact ⟨ret_parse (by rw [e]; first | done | rfl | omega) (by rw [e]; first | done | rfl), hb⟩
      · have hb : baseOf y.toNat = 2 := by rw [h]; rfl
        have e1 := HB.out
        have e2 := HGl.out
        rw [hb, if_neg (by omega)] at e1 e2
        rw [e1, e2] at hval
        obtain ⟨hDd, hDs⟩ := HE.out
        clear e1 e2 hb hb0 HB HGl HE HE0
        go_enter Tryd.func47, Tryd.ntmps47
        go_wp2_with (go_at_call 45; refine (hU _).mono ?_; rintro e w0 ⟨rfl, hb⟩)
        obtain ⟨D, hDD⟩ : ∃ D, T.extract 0 (T.size - 1) = D := ⟨_, rfl⟩
        obtain ⟨d, hdd⟩ : ∃ d, s.extract 0 (s.size - 1) = d := ⟨_, rfl⟩
        rw [hDD] at hDd hDs ⊢
        rw [hdd] at hDd hDs hval
        have HD := Lib.hid hDd
        have hDs1 : D.size ≤ d.size := by omega
        have hDs2 : d.size ≤ D.size := by omega
        have hdle : d.size < 140737488355328 := by rw [← hdd]; simp; omega
        clear hDD hdd hDd hDs h hU
        go_loop [8, 9, 10] (fun n o i => ∃ k m : Nat, k ≤ d.size ∧ i = .int .i64 k ∧ n = .int .i64 m ∧ m ≤ 65536 ∧ o = .bool (decide (65535 < m)) ∧ evalL 2 m (d.data.toList.drop k) = evalL 2 0 d.data.toList) (fun _ _ i => d.size - (intOf i).toNat)
        case atStart => exact ⟨0, 0, by omega, rfl, rfl, by omega, rfl, rfl⟩
        case round =>
          obtain ⟨k, m, hk, rfl, rfl, hm, rfl, hev⟩ := hrel
          have HE := Lib.hid hev
          clear hev
          by_cases hlt : k < d.size
          · have hlt2 : k < D.size := by omega
            have hz := upB_at D d HD.out k hlt hlt2
            obtain ⟨z, hzz⟩ : ∃ z, D[k]'hlt2 = z := ⟨_, rfl⟩
            obtain ⟨r, hrr⟩ : ∃ r, d[k]'hlt = r := ⟨_, rfl⟩
            have hz8 := z.toNat_lt
            have hr8 := r.toNat_lt
            have hdr := drop_at d k hlt
            rw [hrr] at hdr hz
            rw [hzz] at hz
            have hv := digit_any r.toNat (by omega)
            rw [← hz] at hv
            have hdl := dg_le r.toNat
            have HX : Hid (evalL 2 0 d.data.toList = if dg r.toNat < 2 then evalL 2 (min (m * 2 + dg r.toNat) 65536) (d.data.toList.drop (k + 1)) else none) := by
              rw [← HE.out, hdr, evalL]; exact Lib.hid rfl
            obtain ⟨v, hvv⟩ : ∃ v, dg r.toNat = v := ⟨_, rfl⟩
            rw [hvv] at HX hdl
            have hdv : digV r.toNat = if v < 16 then (v : Int) else -1 := by unfold digV; rw [hvv]
            clear hdr hz HE hvv hrr
            by_cases hvb : v < 2
            · rw [if_pos (by omega)] at hdv
              rw [hdv] at hv
              clear hdv
              have e1 := HX.out
              rw [if_pos hvb] at e1
              have HX2 := Lib.hid e1
              clear e1 HX
              by_cases hov : 65535 < m * 2 + v
              all_goals
                go_wp2_with (go_at_call 67; refine (hv _).mono ?_; rintro e w' ⟨rfl, rfl⟩)
              · go_round
                case rel => exact ⟨k + 1, 65536, by omega, by go_num, rfl, by omega, by simp, by rw [HX2.out, show min (m * 2 + v) 65536 = 65536 by omega]⟩
                case measure => simp [intOf]; omega
              · go_round
                case rel => exact ⟨k + 1, m * 2 + v, by omega, by go_num, by go_num, by omega, by simp; omega, by rw [HX2.out, show min (m * 2 + v) 65536 = m * 2 + v by omega]⟩
                case measure => simp [intOf]; omega
            · have e1 := HX.out
              rw [if_neg hvb] at e1
              have e2 := hval.out
              rw [e1] at e2
              have HP := Lib.hid e2
              clear e1 e2 HX
              by_cases hv16 : v < 16
              all_goals try (exfalso; omega)
              all_goals
                first | rw [if_pos hv16] at hdv | rw [if_neg hv16] at hdv
                rw [hdv] at hv
                clear hdv
                go_wp2_with (go_at_call 67; refine (hv _).mono ?_; rintro e w' ⟨rfl, rfl⟩)
                go_ret2
                exact ⟨ret_parse (by rw [HP.out]; rfl) (by rw [HP.out]; rfl), hb⟩
          · obtain rfl : k = d.size := by omega
            have e1 := HE.out
            rw [drop_end d d.size (by omega), evalL] at e1
            have e2 := hval.out
            rw [← e1] at e2
            have HP := Lib.hid e2
            clear e1 e2 HE
            by_cases hmm : 65535 < m
            all_goals
              go_wp2
              go_ret2
              have e := HP.out
              simp only [finL, hmm, if_true, if_false] at e
              exact ⟨ret_parse (by rw [e]; first | done | rfl | omega) (by rw [e]; first | done | rfl), hb⟩
      · have hb : baseOf y.toNat = 10 := by rw [h]; rfl
        have e1 := HB.out
        have e2 := HGl.out
        rw [hb, if_neg (by omega)] at e1 e2
        rw [e1, e2] at hval
        obtain ⟨hDd, hDs⟩ := HE.out
        clear e1 e2 hb hb0 HB HGl HE HE0
        go_enter Tryd.func47, Tryd.ntmps47
        go_wp2_with (go_at_call 45; refine (hU _).mono ?_; rintro e w0 ⟨rfl, hb⟩)
        obtain ⟨D, hDD⟩ : ∃ D, T.extract 0 (T.size - 1) = D := ⟨_, rfl⟩
        obtain ⟨d, hdd⟩ : ∃ d, s.extract 0 (s.size - 1) = d := ⟨_, rfl⟩
        rw [hDD] at hDd hDs ⊢
        rw [hdd] at hDd hDs hval
        have HD := Lib.hid hDd
        have hDs1 : D.size ≤ d.size := by omega
        have hDs2 : d.size ≤ D.size := by omega
        have hdle : d.size < 140737488355328 := by rw [← hdd]; simp; omega
        clear hDD hdd hDd hDs h hU
        go_loop [8, 9, 10] (fun n o i => ∃ k m : Nat, k ≤ d.size ∧ i = .int .i64 k ∧ n = .int .i64 m ∧ m ≤ 65536 ∧ o = .bool (decide (65535 < m)) ∧ evalL 10 m (d.data.toList.drop k) = evalL 10 0 d.data.toList) (fun _ _ i => d.size - (intOf i).toNat)
        case atStart => exact ⟨0, 0, by omega, rfl, rfl, by omega, rfl, rfl⟩
        case round =>
          obtain ⟨k, m, hk, rfl, rfl, hm, rfl, hev⟩ := hrel
          have HE := Lib.hid hev
          clear hev
          by_cases hlt : k < d.size
          · have hlt2 : k < D.size := by omega
            have hz := upB_at D d HD.out k hlt hlt2
            obtain ⟨z, hzz⟩ : ∃ z, D[k]'hlt2 = z := ⟨_, rfl⟩
            obtain ⟨r, hrr⟩ : ∃ r, d[k]'hlt = r := ⟨_, rfl⟩
            have hz8 := z.toNat_lt
            have hr8 := r.toNat_lt
            have hdr := drop_at d k hlt
            rw [hrr] at hdr hz
            rw [hzz] at hz
            have hv := digit_any r.toNat (by omega)
            rw [← hz] at hv
            have hdl := dg_le r.toNat
            have HX : Hid (evalL 10 0 d.data.toList = if dg r.toNat < 10 then evalL 10 (min (m * 10 + dg r.toNat) 65536) (d.data.toList.drop (k + 1)) else none) := by
              rw [← HE.out, hdr, evalL]; exact Lib.hid rfl
            obtain ⟨v, hvv⟩ : ∃ v, dg r.toNat = v := ⟨_, rfl⟩
            rw [hvv] at HX hdl
            have hdv : digV r.toNat = if v < 16 then (v : Int) else -1 := by unfold digV; rw [hvv]
            clear hdr hz HE hvv hrr
            by_cases hvb : v < 10
            · rw [if_pos (by omega)] at hdv
              rw [hdv] at hv
              clear hdv
              have e1 := HX.out
              rw [if_pos hvb] at e1
              have HX2 := Lib.hid e1
              clear e1 HX
              by_cases hov : 65535 < m * 10 + v
              all_goals
                go_wp2_with (go_at_call 67; refine (hv _).mono ?_; rintro e w' ⟨rfl, rfl⟩)
              · go_round
                case rel => exact ⟨k + 1, 65536, by omega, by go_num, rfl, by omega, by simp, by rw [HX2.out, show min (m * 10 + v) 65536 = 65536 by omega]⟩
                case measure => simp [intOf]; omega
              · go_round
                case rel => exact ⟨k + 1, m * 10 + v, by omega, by go_num, by go_num, by omega, by simp; omega, by rw [HX2.out, show min (m * 10 + v) 65536 = m * 10 + v by omega]⟩
                case measure => simp [intOf]; omega
            · have e1 := HX.out
              rw [if_neg hvb] at e1
              have e2 := hval.out
              rw [e1] at e2
              have HP := Lib.hid e2
              clear e1 e2 HX
              by_cases hv16 : v < 16
              all_goals try (exfalso; omega)
              all_goals
                first | rw [if_pos hv16] at hdv | rw [if_neg hv16] at hdv
                rw [hdv] at hv
                clear hdv
                go_wp2_with (go_at_call 67; refine (hv _).mono ?_; rintro e w' ⟨rfl, rfl⟩)
                go_ret2
                exact ⟨ret_parse (by rw [HP.out]; rfl) (by rw [HP.out]; rfl), hb⟩
          · obtain rfl : k = d.size := by omega
            have e1 := HE.out
            rw [drop_end d d.size (by omega), evalL] at e1
            have e2 := hval.out
            rw [← e1] at e2
            have HP := Lib.hid e2
            clear e1 e2 HE
            by_cases hmm : 65535 < m
            all_goals
              go_wp2
              go_ret2
              have e := HP.out
              simp only [finL, hmm, if_true, if_false] at e
              exact ⟨ret_parse (by rw [e]; first | done | rfl | omega) (by rw [e]; first | done | rfl), hb⟩
      · have hb := hb0 h
        obtain ⟨g1, g2, g3, g4, g5⟩ := h
        have e1 := HB.out
        have e2 := HGl.out
        rw [hb, if_pos rfl] at e1 e2
        rw [e1, e2] at hval
        obtain ⟨hDd, hDs⟩ := HE0.out
        have f1 : ((y.toNat : Int) == 72) = false := by rw [beq_eq_false_iff_ne]; omega
        have f2 : ((y.toNat : Int) == 79) = false := by rw [beq_eq_false_iff_ne]; omega
        have f3 : ((y.toNat : Int) == 81) = false := by rw [beq_eq_false_iff_ne]; omega
        have f4 : ((y.toNat : Int) == 66) = false := by rw [beq_eq_false_iff_ne]; omega
        have f5 : ((y.toNat : Int) == 68) = false := by rw [beq_eq_false_iff_ne]; omega
        have HD := Lib.hid hDd
        have hDs1 : T.size ≤ s.size := by omega
        have hDs2 : s.size ≤ T.size := by omega
        clear e1 e2 hb hb0 HB HGl HE HE0 hDd hDs g1 g2 g3 g4 g5
        go_enter Tryd.func47, Tryd.ntmps47
        go_wp2_with (go_at_call 45; refine (hU _).mono ?_; rintro e w0 ⟨rfl, hb⟩)
        clear hU
        go_loop [8, 9, 10] (fun n o i => ∃ k m : Nat, k ≤ s.size ∧ i = .int .i64 k ∧ n = .int .i64 m ∧ m ≤ 65536 ∧ o = .bool (decide (65535 < m)) ∧ evalL 10 m (s.data.toList.drop k) = evalL 10 0 s.data.toList) (fun _ _ i => s.size - (intOf i).toNat)
        case atStart => exact ⟨0, 0, by omega, rfl, rfl, by omega, rfl, rfl⟩
        case round =>
          obtain ⟨k, m, hk, rfl, rfl, hm, rfl, hev⟩ := hrel
          have HE := Lib.hid hev
          clear hev
          by_cases hlt : k < s.size
          · have hlt2 : k < T.size := by omega
            have hz := upB_at T s HD.out k hlt hlt2
            obtain ⟨z, hzz⟩ : ∃ z, T[k]'hlt2 = z := ⟨_, rfl⟩
            obtain ⟨r, hrr⟩ : ∃ r, s[k]'hlt = r := ⟨_, rfl⟩
            have hz8 := z.toNat_lt
            have hr8 := r.toNat_lt
            have hdr := drop_at s k hlt
            rw [hrr] at hdr hz
            rw [hzz] at hz
            have hv := digit_any r.toNat (by omega)
            rw [← hz] at hv
            have hdl := dg_le r.toNat
            have HX : Hid (evalL 10 0 s.data.toList = if dg r.toNat < 10 then evalL 10 (min (m * 10 + dg r.toNat) 65536) (s.data.toList.drop (k + 1)) else none) := by
              rw [← HE.out, hdr, evalL]; exact Lib.hid rfl
            obtain ⟨v, hvv⟩ : ∃ v, dg r.toNat = v := ⟨_, rfl⟩
            rw [hvv] at HX hdl
            have hdv : digV r.toNat = if v < 16 then (v : Int) else -1 := by unfold digV; rw [hvv]
            clear hdr hz HE hvv hrr
            by_cases hvb : v < 10
            · rw [if_pos (by omega)] at hdv
              rw [hdv] at hv
              clear hdv
              have e1 := HX.out
              rw [if_pos hvb] at e1
              have HX2 := Lib.hid e1
              clear e1 HX
              by_cases hov : 65535 < m * 10 + v
              all_goals
                go_wp2_with (go_at_call 67; refine (hv _).mono ?_; rintro e w' ⟨rfl, rfl⟩)
              · go_round
                case rel => exact ⟨k + 1, 65536, by omega, by go_num, rfl, by omega, by simp, by rw [HX2.out, show min (m * 10 + v) 65536 = 65536 by omega]⟩
                case measure => simp [intOf]; omega
              · go_round
                case rel => exact ⟨k + 1, m * 10 + v, by omega, by go_num, by go_num, by omega, by simp; omega, by rw [HX2.out, show min (m * 10 + v) 65536 = m * 10 + v by omega]⟩
                case measure => simp [intOf]; omega
            · have e1 := HX.out
              rw [if_neg hvb] at e1
              have e2 := hval.out
              rw [e1] at e2
              have HP := Lib.hid e2
              clear e1 e2 HX
              by_cases hv16 : v < 16
              all_goals try (exfalso; omega)
              all_goals
                first | rw [if_pos hv16] at hdv | rw [if_neg hv16] at hdv
                rw [hdv] at hv
                clear hdv
                go_wp2_with (go_at_call 67; refine (hv _).mono ?_; rintro e w' ⟨rfl, rfl⟩)
                go_ret2
                exact ⟨ret_parse (by rw [HP.out]; rfl) (by rw [HP.out]; rfl), hb⟩
          · obtain rfl : k = s.size := by omega
            have e1 := HE.out
            rw [drop_end s s.size (by omega), evalL] at e1
            have e2 := hval.out
            rw [← e1] at e2
            have HP := Lib.hid e2
            clear e1 e2 HE
            by_cases hmm : 65535 < m
            all_goals
              go_wp2
              go_ret2
              have e := HP.out
              simp only [finL, hmm, if_true, if_false] at e
              exact ⟨ret_parse (by rw [e]; first | done | rfl | omega) (by rw [e]; first | done | rfl), hb⟩
    · have HP := Lib.hid (parse_no s.data.toList (by omega))
      have hnd : ¬ (48 ≤ (T[0]'hT1).toNat ∧ (T[0]'hT1).toNat ≤ 57) := by rw [← hx]; exact fun h => hdig ((dg_up_iff _).2 h)
      obtain ⟨x, hxx⟩ : ∃ x, T[0]'hT1 = x := ⟨_, rfl⟩
      rw [hxx] at hnd
      have hx8 := x.toNat_lt
      clear hT hTd hTs hx hdig
      by_cases h1 : 48 ≤ x.toNat
      · have h2 : ¬ x.toNat ≤ 57 := fun h => hnd ⟨h1, h⟩
        clear hnd
        go_enter Tryd.func47, Tryd.ntmps47
        go_wp2_with (go_at_call 45; refine (hU _).mono ?_; rintro e w' ⟨rfl, hb⟩)
        go_ret2
        exact ⟨ret_parse (by rw [HP.out]; rfl) (by rw [HP.out]; rfl), hb⟩
      · clear hnd
        go_enter Tryd.func47, Tryd.ntmps47
        go_wp2_with (go_at_call 45; refine (hU _).mono ?_; rintro e w' ⟨rfl, hb⟩)
        go_ret2
        exact ⟨ret_parse (by rw [HP.out]; rfl) (by rw [HP.out]; rfl), hb⟩
end Go.Proofs.YtblbcdofiheikaaDoor
