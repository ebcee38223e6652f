/- How far a name, a number and a text in quotes go: what head and textSize of token do when they are called; what is searched among the marks; no condition but that a text is shorter than 140737488355328 bytes. -/
import Derived.Test.YtaoeipbofhkkcaaGreatDoorTokChars
import Derived.Test.YtaoeipbofhkkcaaGreatDoorTokShelfC
import Derived.Test.YtaoeipbofhkkcaaGreatDoorNumRunq
import Derived.Shelf.Strings.FuncGrows
import Derived.BigQuiet
import Derived.WalkMore
namespace Go.Proofs.YtaoeipbofhkkcaaGreatDoor
open Go.RowKit Go.Proofs.NumMath

/-- a predicate on runes that, of bytes, holds of the same as one on bytes -/
def Agree (p : Nat → Bool) (q : UInt8 → Bool) : Prop := (∀ c : UInt8, p c.toNat = q c) ∧ ∀ r, 128 ≤ r → p r = false
theorem idx_from (p : Nat → Bool) (q : UInt8 → Bool) (ha : Agree p q) (s : ByteArray) : ∀ (f pos : Nat), s.size ≤ pos + f → pos ≤ s.size →
    Lib.idxFuncFrom p false s f pos = if pos + ((s.data.toList.drop pos).takeWhile q).length = s.size then -1 else ((pos + ((s.data.toList.drop pos).takeWhile q).length : Nat) : Int)
  | 0, pos, h, hp => by
    obtain rfl : pos = s.size := by omega
    rw [drop_end s _ (by omega)]; simp [Lib.idxFuncFrom]
  | f + 1, pos, h, hp => by
    unfold Lib.idxFuncFrom
    by_cases hlt : pos < s.size
    · rw [if_pos hlt, drop_at s pos hlt, List.takeWhile_cons]
      by_cases h8 : (s[pos]'hlt).toNat < 128
      · rw [decode_ascii s pos hlt h8, ha.1]
        cases hq : q (s[pos]'hlt)
        · simp only [if_true, Bool.false_eq_true, if_false]
          rw [if_neg (by simp; omega)]; simp
        · simp only [Bool.true_eq_false, if_false, if_true]
          rw [idx_from p q ha s f (pos + 1) (by omega) (by omega)]
          simp only [List.length_cons]
          rw [show pos + 1 + ((s.data.toList.drop (pos + 1)).takeWhile q).length = pos + (((s.data.toList.drop (pos + 1)).takeWhile q).length + 1) by omega]
      · have hh := decode_high s pos hlt (by omega)
        rw [ha.2 _ hh.1]
        have hq : q (s[pos]'hlt) = false := by rw [← ha.1]; exact ha.2 _ (by omega)
        rw [hq]
        simp only [if_true, Bool.false_eq_true, if_false]
        rw [if_neg (by simp; omega)]; simp
    · rw [if_neg hlt, drop_end s _ hlt, if_pos (by simp; omega)]
theorem take_while_le (q : UInt8 → Bool) (l : List UInt8) : (l.takeWhile q).length ≤ l.length := (List.takeWhile_sublist q).length_le
theorem trim_size (p : Nat → Bool) (q : UInt8 → Bool) (ha : Agree p q) (s : ByteArray) : (Lib.trimLeftF p s).size = s.size - (s.data.toList.takeWhile q).length := by
  have h := idx_from p q ha s s.size 0 (by omega) (by omega)
  have hl := take_while_le q s.data.toList
  rw [data_size] at hl
  unfold Lib.trimLeftF Lib.idxFunc
  rw [h]
  simp only [List.drop_zero, Nat.zero_add]
  by_cases e : (s.data.toList.takeWhile q).length = s.size
  · rw [if_pos e, if_pos rfl, e]; simp; rfl
  · rw [if_neg e, if_neg (by omega)]; simp
theorem take_while_take (q : UInt8 → Bool) : ∀ l : List UInt8, l.take (l.takeWhile q).length = l.takeWhile q
  | [] => rfl
  | c :: l => by
    rw [List.takeWhile_cons]
    cases q c
    · rfl
    · simp [take_while_take q l]
theorem extract_take (s : ByteArray) (n : Nat) : (s.extract 0 n) = ⟨(s.data.toList.take n).toArray⟩ := by
  apply ByteArray.ext
  rw [ByteArray.data_extract]
  apply Array.ext'
  simp

theorem head_any (g : Nat) (p : Nat → Bool) (q : UInt8 → Bool) (ha : Agree p q) (eg : ∀ args w, (callFunc g args).run Tryz.prog w = .ok (.enter g args) w) (hp : ∀ (W : World) (r : Nat), Calls Tryz.prog g #[.int .i32 (r : Int)] W fun e w' => e = .returned (.bool (p r)) ∧ Below W.heap.size W w')
    (s : ByteArray) (hs : s.size ≤ 9223372036854775807) (w : World) :
    Calls Tryz.prog 66 #[.string s, .func (.func g) #[] #[]] w fun e w' => e = .returned (.string ⟨(s.data.toList.takeWhile q).toArray⟩) ∧ Below w.heap.size w w' := by
  have hT := fun W => Tryz.strings_TrimLeftFunc_grows g #[] eg p s W (fun W' r _ _ => hp W' r)
  have hz := trim_size p q ha s
  have hl := take_while_le q s.data.toList
  have hx := extract_take s (s.data.toList.takeWhile q).length
  rw [take_while_take] at hx
  rw [data_size] at hl
  obtain ⟨n, hn⟩ : ∃ n, (s.data.toList.takeWhile q).length = n := ⟨_, rfl⟩
  obtain ⟨L, hL⟩ : ∃ L, s.data.toList.takeWhile q = L := ⟨_, rfl⟩
  obtain ⟨T, hTT⟩ : ∃ T, Lib.trimLeftF p s = T := ⟨_, rfl⟩
  rw [hn] at hz hl hx
  rw [hL] at hx ⊢
  rw [hTT] at hz hT
  have HX := Lib.hid hx
  clear hn hL hTT hx
  have hw1 : IntKind.i64.wrap ((s.size : Int) - (T.size : Int)) = (n : Int) := by rw [IntKind.wrap_i64]; omega
  go_enter Tryz.func66, Tryz.ntmps66
  go_wp2_with (go_at_call 83; refine (hT _).mono ?_; rintro e w' ⟨rfl, hb⟩)
  go_ret
  refine ⟨?_, hb⟩
  rw [← HX.out]
  show Ending.returned (.string (s.extract 0 (s.size - (s.size - n)))) = _
  rw [show s.size - (s.size - n) = n by omega]
theorem agree_name : Agree (fun r => letter r || digN r) tailB := ⟨fun c => rfl, fun r h => by
  show (letter r || digN r) = false
  rw [letter_high h]; simp [digN]; omega⟩
theorem agree_num : Agree (fun r => azN r || digN r) alnB := ⟨fun c => by
  show (azN c.toNat || digN c.toNat) = alnB c
  have h1 : c = 63 ↔ c.toNat = 63 := ⟨fun e => by rw [e]; rfl, fun e => UInt8.toNat.inj e⟩
  have h2 : c = 64 ↔ c.toNat = 64 := ⟨fun e => by rw [e]; rfl, fun e => UInt8.toNat.inj e⟩
  have h3 : c = 95 ↔ c.toNat = 95 := ⟨fun e => by rw [e]; rfl, fun e => UInt8.toNat.inj e⟩
  unfold alnB tailB digB
  simp only [ne_eq, h1, h2, h3]
  rw [Bool.eq_iff_iff]
  simp [azN, digN, letter]
  omega, fun r h => by
  show (azN r || digN r) = false
  rw [Bool.eq_false_iff]; simp [azN, digN]; omega⟩
theorem head_name (s : ByteArray) (hs : s.size ≤ 9223372036854775807) (w : World) :
    Calls Tryz.prog 66 #[.string s, .func (.func 67) #[] #[]] w fun e w' => e = .returned (.string ⟨(s.data.toList.takeWhile tailB).toArray⟩) ∧ Below w.heap.size w w' :=
  head_any 67 _ tailB agree_name (enters_of Tryz.func67 (by kernel_rfl) rfl) (fun W r => name1_any r W) s hs w
theorem head_num (s : ByteArray) (hs : s.size ≤ 9223372036854775807) (w : World) :
    Calls Tryz.prog 66 #[.string s, .func (.func 69) #[] #[]] w fun e w' => e = .returned (.string ⟨(s.data.toList.takeWhile alnB).toArray⟩) ∧ Below w.heap.size w w' :=
  head_any 69 _ alnB agree_num (enters_of Tryz.func69 (by kernel_rfl) rfl) (fun W r => number1_any r W) s hs w

/-! ### textSize -/
theorem scan_step (c : UInt8) (u : List UInt8) (h : c ≠ 39) : scanQ (c :: u) = (scanQ u).map (· + 1) := by
  cases u with
  | nil => simp [scanQ, h]
  | cons d u => rw [scanQ, if_neg h]
theorem scan_two (u : List UInt8) : scanQ (39 :: 39 :: u) = (scanQ u).map (· + 2) := by rw [scanQ, if_pos rfl, if_pos rfl]
theorem scan_one (u : List UInt8) (h : ∀ d ∈ u.head?, d ≠ 39) : scanQ (39 :: u) = some 1 := by
  cases u with
  | nil => rfl
  | cons d u => rw [scanQ, if_pos rfl, if_neg (h d rfl)]
def sizeQ (l : List UInt8) : Nat := match scanQ (l.drop 1) with
  | none => l.length
  | some m => m + 1
theorem map_map_add (o : Option Nat) (a b : Nat) : (o.map (· + a)).map (· + b) = o.map (· + (a + b)) := by cases o <;> simp [Nat.add_assoc]
theorem size_any (s : ByteArray) (h0 : 0 < s.size) (hs : s.size < 9223372036854775807) (w : World) : Calls Tryz.prog 72 #[.string s] w fun e w' => e = .returned (.int .i64 (sizeQ s.data.toList : Nat)) ∧ w' = w := by
  go_enter Tryz.func72, Tryz.ntmps72
  go_wp2
  go_loop [3] (fun i => ∃ k : Nat, 1 ≤ k ∧ k ≤ s.size ∧ i = .int .i64 k ∧ Hid (scanQ (s.data.toList.drop 1) = (scanQ (s.data.toList.drop k)).map (· + (k - 1)))) (fun i => s.size - (intOf i).toNat)
  case atStart => exact ⟨1, by omega, by omega, rfl, Lib.hid (by simp)⟩
  case round =>
    obtain ⟨k, hk1, hk, rfl, HQ⟩ := hrel
    by_cases hlt : k < s.size
    · have hd := drop_at s k hlt
      obtain ⟨x, hx⟩ : ∃ x, s[k]'hlt = x := ⟨_, rfl⟩
      rw [hx] at hd
      have HD := Lib.hid hd
      clear hd
      by_cases h39 : x.toNat = 39
      · obtain rfl : x = 39 := UInt8.toNat.inj h39
        by_cases hlt2 : k + 1 < s.size
        · have hd2 := drop_at s (k + 1) hlt2
          obtain ⟨y, hy⟩ : ∃ y, s[k + 1]'hlt2 = y := ⟨_, rfl⟩
          rw [hy] at hd2
          have HD2 := Lib.hid hd2
          clear hd2
          by_cases hy39 : y.toNat = 39
          · obtain rfl : y = 39 := UInt8.toNat.inj hy39
            go_wp2
            go_round
            case rel =>
              refine ⟨k + 2, by omega, by omega, by go_num, Lib.hid ?_⟩
              rw [HQ.out, HD.out, HD2.out, scan_two, map_map_add, show 2 + (k - 1) = k + 2 - 1 by omega]
            case measure => simp [intOf]; omega
          · go_wp2
            go_ret
            refine ⟨ret_int ?_, rfl⟩
            unfold sizeQ
            rw [HQ.out, HD.out, HD2.out, scan_one _ (fun d hd => by simp at hd; rw [← hd]; intro e; exact hy39 (by rw [e]; rfl))]
            simp; omega
        · go_wp2
          go_ret
          refine ⟨ret_int ?_, rfl⟩
          unfold sizeQ
          rw [HQ.out, HD.out, drop_end s _ hlt2, scan_one _ (fun d hd => by simp at hd)]
          simp; omega
      · go_wp2
        go_round
        case rel =>
          refine ⟨k + 1, by omega, by omega, by go_num, Lib.hid ?_⟩
          rw [HQ.out, HD.out, scan_step _ _ (fun e => h39 (by rw [e]; rfl)), map_map_add, show 1 + (k - 1) = k + 1 - 1 by omega]
        case measure => simp [intOf]; omega
    · obtain rfl : k = s.size := by omega
      go_wp2
      go_ret
      refine ⟨ret_int ?_, rfl⟩
      unfold sizeQ
      rw [HQ.out, drop_end s _ hlt]
      simp [scanQ]

/-! ### the marks -/
theorem index_none (c : UInt8) : ∀ l : List UInt8, c ∉ l → Lib.indexByte l c < 0 := fun l h => by
  have := mem_index l c
  have h2 : ¬ (0 ≤ Lib.indexByte l c) := fun e => h (this.1 e)
  omega
theorem valid_any (r : Nat) (h1 : 128 ≤ r) (h2 : r ≤ 255) (w : World) : Calls Tryz.prog 91 #[.int .i32 r] w fun e w' => e = .returned (.bool true) ∧ w' = w := by
  have hd : decide ((r : Int) < 55296) = true := decide_eq_true (by omega)
  go_enter Tryz.func91, Tryz.ntmps91
  go_wp2
  go_ret
  exact ⟨rfl, rfl⟩
theorem enc_two (r : Nat) (h1 : 128 ≤ r) (h2 : r ≤ 255) : Utf8.encode (r : Int) = ⟨#[UInt8.ofNat (192 + r / 64), UInt8.ofNat (128 + r % 64)]⟩ := by
  have hv : Utf8.valid (r : Int) = true := by unfold Utf8.valid; simp; omega
  unfold Utf8.encode
  simp only [hv, if_true, Int.toNat_natCast]
  rw [if_neg (by omega), if_pos (by omega)]
set_option maxRecDepth 100000 in
set_option maxHeartbeats 4000000 in
theorem rune_none (M : ByteArray) (hM : M.data.toList = markL) (hS : M.size = 11) (h1M : (M[1]'(by omega)).toNat = 40) (r : Nat) (h1 : 128 ≤ r) (h2 : r ≤ 255) (w : World) : Calls Tryz.prog 74 #[.string M, .int .i32 r] w fun e w' => e = .returned (.int .i64 (-1)) ∧ Below w.heap.size w w' := by
  have e2 := enc_two r h1 h2
  obtain ⟨b, hb⟩ : ∃ b, UInt8.ofNat (128 + r % 64) = b := ⟨_, rfl⟩
  have hbn : 128 ≤ b.toNat := by rw [← hb]; simp; omega
  have hb8 := b.toNat_lt
  obtain ⟨R, hR⟩ : ∃ R, Utf8.encode (r : Int) = R := ⟨_, rfl⟩
  rw [hR, hb] at e2
  have hRs : R.size = 2 := by rw [e2]; rfl
  have hRb : ∀ h : 1 < R.size, (R[1]'h).toNat = b.toNat := fun h => by subst e2; rfl
  have hcv : ∀ W, (convert 21 9 (.int .i32 (r : Int))).run Tryz.prog W = .ok (.string R) W := fun W => by
    rw [← hR]; exact run_convert_int_string W 21 9 .i32 _ (by rw [Tryz.underlying21]; exact Option.isSome_some) Tryz.underlying9
  have hR1 : 1 < R.size := by omega
  have hI : ∀ W, Calls Tryz.prog 32 #[.string (M.extract 2 M.size), .int .u8 (b.toNat : Int)] W fun e w' => e = .returned (.int .i64 (Lib.indexByte (M.extract 2 M.size).data.toList b)) ∧ w' = W := fun W => by
    have := Tryz.strings_IndexByte (M.extract 2 M.size) (b.toNat : Int) W
    rwa [Int.toNat_natCast, show b.toNat.toUInt8 = b by simp [Nat.toUInt8]] at this
  have hneg : Lib.indexByte (M.extract 2 M.size).data.toList b < 0 := by
    apply index_none
    intro hm
    have hall : ∀ c ∈ markL, c.toNat < 128 := by decide
    have hm2 : b ∈ markL := by
      rw [← hM]
      rw [ByteArray.data_extract] at hm
      simp at hm
      exact List.mem_of_mem_drop (List.mem_of_mem_take hm)
    have := hall b hm2
    omega
  rw [hS] at hI hneg
  have hw2 : IntKind.i64.wrap 2 = 2 := by decide
  obtain ⟨z, hz⟩ : ∃ z, Lib.indexByte (M.extract 2 11).data.toList b = z := ⟨_, rfl⟩
  rw [hz] at hneg hI
  have hM1 : 1 < M.size := by omega
  clear hz e2 hR hb hM
  have hq : ((r : Int) == 65533) = false := by rw [beq_eq_false_iff_ne]; omega
  have hd : decide ((r : Int) < 128) = false := decide_eq_false (by omega)
  go_enter Tryz.func74, Tryz.ntmps74
  go_wp2_with (go_at_call 91; refine (valid_any r h1 h2 _).mono ?_; rintro e w' ⟨rfl, rfl⟩)
  go_step3
  go_wp2
  go_loop [9, 10] (fun i f => i = .int .i64 1 ∧ f = .int .i64 0) (fun _ _ => 0)
  case atStart => exact ⟨rfl, rfl⟩
  case round =>
    obtain ⟨rfl, rfl⟩ := hrel
    go_wp2
    go_step3
    go_wp2
    go_quiet (fail)
    have hB1 := below_drewNg w' nq
    generalize w'.drewN nq = w1 at hB1 ⊢
    go_wp2
    go_quiet ((go_at_call 32; exact Calls.quiet_of_same (hI _)))
    have hB2 := hB1.trans ((below_drewNg w1 nq).mono hB1.size)
    generalize w1.drewN nq = w2 at hB2 ⊢
    go_wp2
    rw [Exit.noGoto_ret]
    dsimp +zetaDelta only [Exit.inBlock, Exit.then, Exit.noGoto_ret]
    go_ret
    exact ⟨rfl, hB2⟩
theorem cont_any (c : UInt8) (w : World) : Calls Tryz.prog 50 #[.string ⟨#[44, 40, 41, 91, 93, 43, 45, 42, 47, 58, 36]⟩, .int .i32 (c.toNat : Nat)] w fun e w' => e = .returned (.bool (markB c)) ∧ Below w.heap.size w w' := by
  by_cases h : c.toNat < 128
  · refine (Tryz.strings_ContainsRune_ascii _ (c.toNat : Int) w (by omega) (by omega)).mono ?_
    rintro e w' ⟨rfl, rfl⟩
    refine ⟨ret_bool ?_, Below.refl _ _⟩
    rw [Int.toNat_natCast, show c.toNat.toUInt8 = c by simp [Nat.toUInt8]]
    exact decide_eq_decide.2 (mem_index markL c)
  · have hm : markB c = false := by
      have hall : ∀ c ∈ markL, c.toNat < 128 := by decide
      exact decide_eq_false fun hm => h (hall c hm)
    rw [hm]
    have h8 := c.toNat_lt
    have hN := fun W => rune_none ⟨#[44, 40, 41, 91, 93, 43, 45, 42, 47, 58, 36]⟩ rfl rfl rfl c.toNat (by omega) (by omega) W
    obtain ⟨M, hM⟩ : ∃ M : ByteArray, M = ⟨#[44, 40, 41, 91, 93, 43, 45, 42, 47, 58, 36]⟩ := ⟨_, rfl⟩
    rw [← hM] at hN ⊢
    clear hM hm
    go_enter Tryz.func50, Tryz.ntmps50
    go_wp2_with (go_at_call 74; refine (hN _).mono ?_; rintro e w' ⟨rfl, hb⟩)
    go_ret
    exact ⟨rfl, hb⟩
end Go.Proofs.YtaoeipbofhkkcaaGreatDoor
