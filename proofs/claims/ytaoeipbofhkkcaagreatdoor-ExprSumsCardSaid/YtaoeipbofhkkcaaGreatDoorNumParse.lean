/- What number.Parse does when it is called: it answers the number of a text, or why there is none, and leaves all that was there as it was; no condition. -/
import Derived.Test.YtaoeipbofhkkcaaGreatDoorNumSmall
import Derived.LoopTactic
namespace Go.Proofs.YtaoeipbofhkkcaaGreatDoor
open Go.RowKit Go.Proofs.NumMath

theorem ret_parse {m n m' n' : Int} (h : m = m') (g : n = n') : Ending.returned (.tuple #[.int .u16 m, .int .i64 n]) = .returned (.tuple #[.int .u16 m', .int .i64 n']) := by rw [h, g]
theorem below_iter (w : World) (s : ByteArray) (p : Nat) : Below w.heap.size w (w.iter s p) := (Below.refl _ _).alloc (Nat.le_refl _) _
theorem headN_at (s : ByteArray) (h : 0 < s.size) : headN s.data.toList = (s[0]'h).toNat := by
  unfold headN
  have hl : s.data.toList.length = s.size := by simp
  cases e : s.data.toList with
  | nil => rw [e] at hl; simp at hl; omega
  | cons c t =>
    have : s.data.toList[0]? = some (s[0]'h) := by rw [List.getElem?_eq_getElem (by rw [hl]; exact h)]; rfl
    rw [e] at this
    simp at this
    rw [← this]
theorem drop_at (s : ByteArray) (p : Nat) (h : p < s.size) : s.data.toList.drop p = s[p]'h :: s.data.toList.drop (p + 1) := by
  have hl : s.data.toList.length = s.size := by simp
  rw [List.drop_eq_getElem_cons (by rw [hl]; exact h)]
  rfl
theorem drop_end (s : ByteArray) (p : Nat) (h : ¬ p < s.size) : s.data.toList.drop p = [] := by
  have hl : s.data.toList.length = s.size := by simp
  exact List.drop_eq_nil_of_le (by omega)
theorem dg_high {n : Nat} (h : 128 ≤ n) : dg n = 16 := by
  unfold dg
  repeat' split
  all_goals omega
/-- what is known of the digits and their base ahead of the loop -/
theorem parse_syn (l : List UInt8) (h : 10 ≤ dg (headN (digsL l))) : parseL l = (0, 2) := by unfold parseL; rw [if_pos h]
theorem parse_val (l : List UInt8) (h : ¬ 10 ≤ dg (headN (digsL l))) : parseL l = finL (evalL (baseL l) 0 (digsL l)) := by rw [parseL, if_neg h]
set_option maxHeartbeats 2000000 in
theorem parse_any (s : ByteArray) (hs : s.size ≤ 9223372036854775807) (w : World) : Calls Tryz.prog 71 #[.string s] w fun e w' =>
    e = .returned (.tuple #[.int .u16 ((parseL s.data.toList).1 : Nat), .int .i64 ((parseL s.data.toList).2 : Nat)]) ∧ Below w.heap.size w w' := by
  have hsp := split_any s hs
  have hdd := digsB_data s
  have hb := baseL_cases s.data.toList
  have hsz : (digsB s).size ≤ s.size := by unfold digsB; split <;> simp
  have hsyn := Lib.hid (parse_syn s.data.toList)
  have hval := Lib.hid (parse_val s.data.toList)
  obtain ⟨d, hd⟩ : ∃ d, digsB s = d := ⟨_, rfl⟩
  obtain ⟨b, hbb⟩ : ∃ b, baseL s.data.toList = b := ⟨_, rfl⟩
  obtain ⟨P, hP⟩ : ∃ P, parseL s.data.toList = P := ⟨_, rfl⟩
  rw [hd] at hsp hdd hsz
  rw [hbb] at hsp hb
  rw [hbb, hP, ← hdd] at hval
  rw [hP, ← hdd] at hsyn
  rw [hP]
  clear hdd hbb hP hd
  by_cases h0 : d.size = 0
  · obtain rfl : d = ByteArray.empty := by simpa using h0
    have hPP := Lib.hid (hsyn.out (by decide))
    clear hsyn hval
    go_enter Tryz.func71, Tryz.ntmps71
    go_wp2_with (go_at_call 85; refine (hsp _).mono ?_; rintro e w' ⟨rfl, rfl⟩)
    go_ret2
    exact ⟨ret_parse (by rw [hPP.out]; rfl) (by rw [hPP.out]; rfl), Below.refl _ _⟩
  · have hl0 : 0 < d.size := by omega
    have he : d.toList.isEmpty = false := isEmpty_pos d h0
    have hh := headN_at d hl0
    obtain ⟨c, hc⟩ : ∃ c, d[0]'hl0 = c := ⟨_, rfl⟩
    have hc8 := c.toNat_lt
    rw [hc] at hh
    have hv := value_any c.toNat (by omega)
    have hdl := dg_le c.toNat
    obtain ⟨v, hvv⟩ : ∃ v, dg c.toNat = v := ⟨_, rfl⟩
    rw [hh, hvv] at hsyn hval
    rw [hvv] at hv hdl
    clear hh hvv
    by_cases hv10 : 10 ≤ v
    · have hPP := Lib.hid (hsyn.out hv10)
      clear hsyn hval
      go_enter Tryz.func71, Tryz.ntmps71
      go_wp2_with (first | (go_at_call 85; refine (hsp _).mono ?_; rintro e w' ⟨rfl, rfl⟩) | (go_at_call 81; refine (hv _).mono ?_; rintro e w' ⟨rfl, rfl⟩))
      go_ret2
      exact ⟨ret_parse (by rw [hPP.out]; rfl) (by rw [hPP.out]; rfl), Below.refl _ _⟩
    · have hPP := Lib.hid (hval.out hv10)
      clear hsyn hval
      go_enter Tryz.func71, Tryz.ntmps71
      go_wp2_with (first | (go_at_call 85; refine (hsp _).mono ?_; rintro e w' ⟨rfl, rfl⟩) | (go_at_call 81; refine (hv _).mono ?_; rintro e w' ⟨rfl, rfl⟩))
      clear hv hsp
      go_loopw [6] (fun n w' => ∃ (pos m : Nat), w' = w.iter d pos ∧ n = .int .i64 m ∧ m ≤ 65536 ∧ pos ≤ d.size ∧ evalL b m (d.data.toList.drop pos) = evalL b 0 d.data.toList) (fun _ w' => d.size - w'.iterPos w.heap.size)
      case atStart => exact ⟨0, 0, rfl, rfl, by omega, by omega, rfl⟩
      case round =>
        obtain ⟨pos, m, rfl, rfl, hm, hpos, hev⟩ := hrel
        have HE := Lib.hid hev
        clear hev
        by_cases hp : pos < d.size
        · obtain ⟨x, hx⟩ : ∃ x, d[pos]'hp = x := ⟨_, rfl⟩
          have hx8 := x.toNat_lt
          have hdr := drop_at d pos hp
          rw [hx] at hdr
          by_cases ha : x.toNat < 128
          · have hnx : ∀ ty, (Instr.next (.pointer (some ⟨w.heap.size, 0, none⟩)) true ty).run Tryz.prog (w.iter d pos) = _ := fun ty => run_next_ascii w d pos ty hp (by rw [hx]; exact ha)
            rw [hx] at hnx
            have hv := value_any x.toNat (by omega)
            have hdl := dg_le x.toNat
            obtain ⟨v', hvv⟩ : ∃ v, dg x.toNat = v := ⟨_, rfl⟩
            rw [hvv] at hv hdl
            have HX : Hid (evalL b 0 d.data.toList = if v' < b then evalL b (min (m * b + v') 65536) (d.data.toList.drop (pos + 1)) else none) := by
              rw [← HE.out, hdr, evalL, hvv]; exact Lib.hid rfl
            clear hdr HE hvv
            have hmb : (m : Int) * b ≤ 1048576 ∧ 0 ≤ (m : Int) * b := by
              have h1 : m * b ≤ 65536 * 16 := Nat.mul_le_mul hm (by omega)
              have h2 : ((m * b : Nat) : Int) = (m : Int) * b := by push_cast; rfl
              omega
            obtain ⟨hmb1, hmb2⟩ := hmb
            by_cases hvb : v' < b
            · go_wp2_with (go_at_call 81; refine (hv _).mono ?_; rintro e w' ⟨rfl, rfl⟩)
              have e1 := HX.out
              rw [if_pos hvb] at e1
              go_roundw
              case rel =>
                refine ⟨pos + 1, min (m * b + v') 65536, rfl, ?_, Nat.min_le_right _ _, by omega, e1.symm⟩
                have h2 : ((m * b : Nat) : Int) = (m : Int) * b := by push_cast; rfl
                rw [← h2]
                congr 1
                split <;> omega
              case measure =>
                simp
                omega
            · go_wp2_with (go_at_call 81; refine (hv _).mono ?_; rintro e w' ⟨rfl, rfl⟩)
              go_ret2
              have e1 := HX.out
              rw [if_neg hvb] at e1
              have e2 := hPP.out
              rw [e1] at e2
              exact ⟨ret_parse (by rw [e2]; rfl) (by rw [e2]; rfl), below_iter _ _ _⟩
          · have hnx : ∀ ty, (Instr.next (.pointer (some ⟨w.heap.size, 0, none⟩)) true ty).run Tryz.prog (w.iter d pos) = _ := fun ty => run_next_any w d pos ty hp
            have hhi := decode_high d pos hp (by rw [hx]; omega)
            have hle := decode_le d pos
            obtain ⟨⟨R, W⟩, hRW⟩ : ∃ q, Utf8.decode d pos = q := ⟨_, rfl⟩
            rw [hRW] at hnx hhi hle
            have hv := value_any R hle
            rw [dg_high hhi.1] at hv
            have e1 : evalL b 0 d.data.toList = none := by rw [← HE.out, hdr, evalL, dg_high (by omega), if_neg (by omega)]
            have e2 := hPP.out
            rw [e1] at e2
            have HP := Lib.hid e2
            clear e1 e2 hRW hdr HE hPP
            go_wp2_with (go_at_call 81; refine (hv _).mono ?_; rintro e w' ⟨rfl, rfl⟩)
            go_ret2
            exact ⟨ret_parse (by rw [HP.out]; rfl) (by rw [HP.out]; rfl), below_iter _ _ _⟩
        · have hnx : ∀ ty, (Instr.next (.pointer (some ⟨w.heap.size, 0, none⟩)) true ty).run Tryz.prog (w.iter d pos) = _ := fun ty => run_next_end w d pos ty hp
          have e1 := HE.out
          rw [drop_end d pos hp, evalL] at e1
          have e2 := hPP.out
          rw [← e1] at e2
          have HP := Lib.hid e2
          clear e1 e2 HE hPP
          by_cases hmm : 65535 < m
          all_goals
            go_wp2
            go_ret2
            have e := HP.out
            simp only [finL, hmm, if_true, if_false] at e
            exact ⟨ret_parse (by rw [e]; first | done | rfl | omega) (by rw [e]; first | done | rfl), below_iter _ _ _⟩
end Go.Proofs.YtaoeipbofhkkcaaGreatDoor
