/- What Name, Upper, Value and isPrintable of the package number, and the document's Name and Value do when they are called; no condition but that a text is shorter than 140737488355328 bytes. -/
import Derived.Test.YtaoeipbofhkkcaaGreatDoorNumOwn
import Derived.Lib.DecodeN
namespace Go.Proofs.YtaoeipbofhkkcaaGreatDoor
open Go.RowKit Go.Proofs.NumMath

/-! ### Value -/
def valL (l : List UInt8) : Nat × Nat := match l with
  | [a] => (a.toNat, 0)
  | [a, b] => (a.toNat * 256 + b.toNat, 0)
  | _ => (0, 5)
theorem list1 (s : ByteArray) (h : s.size = 1) : s.data.toList = [s[0]'(by omega)] := by
  have := drop_at s 0 (by omega)
  rw [drop_end s 1 (by omega)] at this
  simpa using this
theorem list2 (s : ByteArray) (h : s.size = 2) : s.data.toList = [s[0]'(by omega), s[1]'(by omega)] := by
  have h0 := drop_at s 0 (by omega)
  have h1 := drop_at s 1 (by omega)
  rw [h1, drop_end s 2 (by omega)] at h0
  simpa using h0
theorem val_other (s : ByteArray) (h1 : s.size ≠ 1) (h2 : s.size ≠ 2) : valL s.data.toList = (0, 5) := by
  have hl := data_size s
  unfold valL
  split
  · rename_i e; rw [e] at hl; simp at hl; omega
  · rename_i e; rw [e] at hl; simp at hl; omega
  · rfl
theorem or_u16 (a b : Nat) (ha : a < 256) (hb : b < 256) : bits BinOp.or IntKind.u16 ((a : Int) * 256) (b : Int) = ((a * 256 + b : Nat) : Int) := by
  have h0 : ((a : Int) * 256) = ((a * 256 : Nat) : Int) := by omega
  have h1 : (BitVec.ofInt 16 ((a * 256 : Nat) : Int)).toNat = a * 256 := by
    rw [BitVec.ofInt_natCast, BitVec.toNat_ofNat]; exact Nat.mod_eq_of_lt (by omega : _ < 65536)
  have h2 : (BitVec.ofInt 16 (b : Int)).toNat = b := by
    rw [BitVec.ofInt_natCast, BitVec.toNat_ofNat]; exact Nat.mod_eq_of_lt (by omega : _ < 65536)
  have h3 : a * 256 ||| b = a * 256 + b := by
    have := Nat.shiftLeft_add_eq_or_of_lt (show b < 2 ^ 8 by omega) a
    rw [Nat.shiftLeft_eq] at this
    exact this.symm
  rw [h0]
  show IntKind.u16.wrap ((BitVec.ofInt 16 ((a * 256 : Nat) : Int) ||| BitVec.ofInt 16 (b : Int)).toNat : Int) = _
  rw [BitVec.toNat_or, h1, h2, h3]
  exact IntWalk.u16_in _ (by omega)
theorem val_any (s : ByteArray) (w : World) : Calls Tryz.prog 139 #[.string s] w fun e w' => e = .returned (.tuple #[.int .u16 ((valL s.data.toList).1 : Nat), .int .i64 ((valL s.data.toList).2 : Nat)]) ∧ Below w.heap.size w w' := by
  by_cases h1 : s.size = 1
  · have hv := list1 s h1
    have hx8 := (s[0]'(by omega)).toNat_lt
    obtain ⟨x, hx⟩ : ∃ x, s[0]'(by omega) = x := ⟨_, rfl⟩
    rw [hx] at hv hx8
    have HV := Lib.hid hv
    clear hv
    go_enter Tryz.func139, Tryz.ntmps139
    go_wp2
    go_ret2
    exact ⟨ret_parse (by rw [HV.out]; rfl) (by rw [HV.out]; rfl), Below.refl _ _⟩
  · by_cases h2 : s.size = 2
    · have hv := list2 s h2
      have hx8 := (s[0]'(by omega)).toNat_lt
      have hy8 := (s[1]'(by omega)).toNat_lt
      obtain ⟨x, hx⟩ : ∃ x, s[0]'(by omega) = x := ⟨_, rfl⟩
      obtain ⟨y, hy⟩ : ∃ y, s[1]'(by omega) = y := ⟨_, rfl⟩
      rw [hx, hy] at hv
      rw [hx] at hx8
      rw [hy] at hy8
      have HV := Lib.hid hv
      clear hv h1
      go_enter Tryz.func139, Tryz.ntmps139
      go_wp2
      go_quiet (fail)
      go_wp2
      go_ret2
      refine ⟨ret_parse ?_ (by rw [HV.out]; rfl), below_drewN (Below.refl _ _) _⟩
      rw [HV.out]
      exact or_u16 x.toNat y.toNat (by omega) (by omega)
    · have hv := Lib.hid (val_other s h1 h2)
      go_enter Tryz.func139, Tryz.ntmps139
      go_wp2
      go_ret2
      exact ⟨ret_parse (by rw [hv.out]; rfl) (by rw [hv.out]; rfl), Below.refl _ _⟩
/-! ### Name -/
theorem letter_high {n : Nat} (h : 128 ≤ n) : letter n = false := by
  unfold letter
  simp
  omega
theorem tail_drop (s : ByteArray) (k : Nat) (hk : k < s.size) : tailOk (s.data.toList.drop k) = ((letter (s[k]'hk).toNat || decide (dg (s[k]'hk).toNat < 10)) && tailOk (s.data.toList.drop (k + 1))) := by
  rw [drop_at s k hk]
  rfl
def chk (l : List UInt8) (p : Nat) : Bool := if p = 0 then letter (headN l) && tailOk (l.drop 1) else tailOk (l.drop p)
theorem chk_step (s : ByteArray) (p : Nat) (hp : p < s.size) : chk s.data.toList p = ((letter (s[p]'hp).toNat || (decide (p ≠ 0) && decide (dg (s[p]'hp).toNat < 10))) && chk s.data.toList (p + 1)) := by
  unfold chk
  rw [if_neg (show p + 1 ≠ 0 by omega)]
  by_cases h : p = 0
  · subst h
    rw [if_pos rfl, headN_at s hp]
    simp
  · rw [if_neg h, tail_drop s p hp]
    simp [h]
theorem chk_end (s : ByteArray) (h : s.size ≠ 0) : chk s.data.toList s.size = true := by
  unfold chk
  rw [if_neg h, drop_end s _ (by omega)]
  rfl
theorem nameL_eq (l : List UInt8) : nameL l = (decide (1 ≤ l.length) && decide (l.length ≤ 16) && chk l 0) := by
  unfold nameL chk
  rw [if_pos rfl, Bool.and_assoc]
set_option maxHeartbeats 1000000 in
theorem name_any (s : ByteArray) (hs : s.size ≤ 9223372036854775807) (w : World) : Calls Tryz.prog 65 #[.string s] w fun e w' => e = .returned (.bool (nameL s.data.toList)) ∧ Below w.heap.size w w' := by
  have hN := nameL_eq s.data.toList
  rw [data_size] at hN
  obtain ⟨N, hNN⟩ : ∃ N, nameL s.data.toList = N := ⟨_, rfl⟩
  rw [hNN] at hN ⊢
  clear hNN
  by_cases h0 : s.size = 0
  · obtain rfl : s = ByteArray.empty := by simpa using h0
    have HN := Lib.hid hN
    clear hN h0
    go_enter Tryz.func65, Tryz.ntmps65
    go_wp2
    go_ret
    exact ⟨ret_bool (by rw [HN.out]; rfl), Below.refl _ _⟩
  · have he := isEmpty_pos s h0
    by_cases h16 : s.size ≤ 16
    · have e1 : N = chk s.data.toList 0 := by
        rw [hN, decide_eq_true (by omega), decide_eq_true h16]; simp
      have HN := Lib.hid e1
      clear hN e1
      go_enter Tryz.func65, Tryz.ntmps65
      go_wp2
      go_loopw [] (fun w' => ∃ pos : Nat, w' = w.iter s pos ∧ pos ≤ s.size ∧ chk s.data.toList pos = N) (fun w' => s.size - w'.iterPos w.heap.size)
      case atStart => exact ⟨0, rfl, by omega, HN.out.symm⟩
      case round =>
        obtain ⟨pos, rfl, hpos, hc⟩ := hrel
        have HC := Lib.hid hc
        clear hc
        by_cases hp : pos < s.size
        · obtain ⟨x, hx⟩ : ∃ x, s[pos]'hp = x := ⟨_, rfl⟩
          have hx8 := x.toNat_lt
          have hst := chk_step s pos hp
          rw [hx] at hst
          have HS := Lib.hid hst
          clear hst
          by_cases ha : x.toNat < 128
          · have hnx : ∀ ty, (Instr.next (.pointer (some ⟨w.heap.size, 0, none⟩)) true ty).run Tryz.prog (w.iter s pos) = _ := fun ty => run_next_ascii w s pos ty hp (by rw [hx]; exact ha)
            rw [hx] at hnx
            have hb := begins_any x.toNat (by omega)
            have hv := value_any x.toNat (by omega)
            have hdl := dg_le x.toNat
            obtain ⟨v, hvv⟩ : ∃ v, dg x.toNat = v := ⟨_, rfl⟩
            obtain ⟨b, hbb⟩ : ∃ b, letter x.toNat = b := ⟨_, rfl⟩
            rw [hbb] at hb
            rw [hvv] at hv hdl
            have HS2 : Hid (N = ((b || (decide (pos ≠ 0) && decide (v < 10))) && chk s.data.toList (pos + 1))) := by
              rw [← HC.out, HS.out, hbb, hvv]; exact Lib.hid rfl
            clear HS HC hvv hbb
            cases b
            · by_cases hp0 : pos = 0
              · subst hp0
                go_wp2_with (first
                  | (go_at_call 82; refine (hb _).mono ?_; rintro e w' ⟨rfl, rfl⟩)
                  | (go_at_call 81; refine (hv _).mono ?_; rintro e w' ⟨rfl, rfl⟩))
                go_ret
                exact ⟨ret_bool (by rw [HS2.out]; simp), below_iter _ _ _⟩
              · have hpz : ((pos : Int) == 0) = false := by rw [beq_eq_false_iff_ne]; omega
                by_cases hv10 : v < 10
                · go_wp2_with (first
                    | (go_at_call 82; refine (hb _).mono ?_; rintro e w' ⟨rfl, rfl⟩)
                    | (go_at_call 81; refine (hv _).mono ?_; rintro e w' ⟨rfl, rfl⟩))
                  go_roundw
                  case rel => exact ⟨pos + 1, rfl, by omega, by rw [HS2.out]; simp [hp0, hv10]⟩
                  case measure => simp; omega
                · go_wp2_with (first
                    | (go_at_call 82; refine (hb _).mono ?_; rintro e w' ⟨rfl, rfl⟩)
                    | (go_at_call 81; refine (hv _).mono ?_; rintro e w' ⟨rfl, rfl⟩))
                  go_ret
                  exact ⟨ret_bool (by rw [HS2.out]; simp [hv10]), below_iter _ _ _⟩
            · go_wp2_with (first
                | (go_at_call 82; refine (hb _).mono ?_; rintro e w' ⟨rfl, rfl⟩)
                | (go_at_call 81; refine (hv _).mono ?_; rintro e w' ⟨rfl, rfl⟩))
              go_roundw
              case rel => exact ⟨pos + 1, rfl, by omega, by rw [HS2.out]; simp⟩
              case measure => simp; omega
          · have hnx : ∀ ty, (Instr.next (.pointer (some ⟨w.heap.size, 0, none⟩)) true ty).run Tryz.prog (w.iter s pos) = _ := fun ty => run_next_any w s pos ty hp
            have hhi := decode_high s pos hp (by rw [hx]; omega)
            have hle := decode_le s pos
            obtain ⟨⟨R, W⟩, hRW⟩ : ∃ q, Utf8.decode s pos = q := ⟨_, rfl⟩
            rw [hRW] at hnx hhi hle
            have hb := begins_any R hle
            rw [letter_high hhi.1] at hb
            have hv := value_any R hle
            rw [dg_high hhi.1] at hv
            have HP : Hid (N = false) := by
              rw [← HC.out, HS.out, letter_high (by omega), dg_high (by omega)]; exact Lib.hid (by simp)
            clear hRW HS HC
            by_cases hp0 : pos = 0
            · subst hp0
              go_wp2_with (first
                | (go_at_call 82; refine (hb _).mono ?_; rintro e w' ⟨rfl, rfl⟩)
                | (go_at_call 81; refine (hv _).mono ?_; rintro e w' ⟨rfl, rfl⟩))
              go_ret
              exact ⟨ret_bool (by rw [HP.out]), below_iter _ _ _⟩
            · have hpz : ((pos : Int) == 0) = false := by rw [beq_eq_false_iff_ne]; omega
              go_wp2_with (first
                | (go_at_call 82; refine (hb _).mono ?_; rintro e w' ⟨rfl, rfl⟩)
                | (go_at_call 81; refine (hv _).mono ?_; rintro e w' ⟨rfl, rfl⟩))
              go_ret
              exact ⟨ret_bool (by rw [HP.out]), below_iter _ _ _⟩
        · have hnx : ∀ ty, (Instr.next (.pointer (some ⟨w.heap.size, 0, none⟩)) true ty).run Tryz.prog (w.iter s pos) = _ := fun ty => run_next_end w s pos ty hp
          obtain rfl : pos = s.size := by omega
          have HP : Hid (N = true) := by rw [← HC.out, chk_end s h0]; exact Lib.hid rfl
          clear HC
          go_wp2
          go_ret
          exact ⟨ret_bool (by rw [HP.out]), below_iter _ _ _⟩
    · have e1 : N = false := by rw [hN, decide_eq_false h16]; simp
      have HN := Lib.hid e1
      clear hN e1
      go_enter Tryz.func65, Tryz.ntmps65
      go_wp2
      go_ret
      exact ⟨ret_bool (by rw [HN.out]), Below.refl _ _⟩
end Go.Proofs.YtaoeipbofhkkcaaGreatDoor
