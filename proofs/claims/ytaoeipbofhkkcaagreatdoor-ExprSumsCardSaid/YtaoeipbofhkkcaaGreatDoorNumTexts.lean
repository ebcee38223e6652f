/- What the document's Name, and Upper and isPrintable of the package number do when they are called; no condition but that a text is shorter than 140737488355328 bytes. -/
import Derived.Test.YtaoeipbofhkkcaaGreatDoorNumNames
namespace Go.Proofs.YtaoeipbofhkkcaaGreatDoor
open Go.RowKit Go.Proofs.NumMath

theorem dg_lt10 (n : Nat) : dg n < 10 ↔ 48 ≤ n ∧ n ≤ 57 := by
  unfold dg
  repeat' split
  all_goals omega
set_option maxHeartbeats 1000000 in
theorem rname_any (s : ByteArray) (hs : s.size ≤ 9223372036854775807) (w : World) : Calls Tryz.prog 55 #[.string s] w fun e w' => e = .returned (.bool (nameL s.data.toList)) ∧ w = w' := by
  have hN := nameL_eq s.data.toList
  rw [data_size] at hN
  obtain ⟨N, hNN⟩ : ∃ N, nameL s.data.toList = N := ⟨_, rfl⟩
  rw [hNN] at hN ⊢
  clear hNN
  by_cases h0 : s.size = 0
  · have HN := Lib.hid hN
    clear hN
    go_enter Tryz.func55, Tryz.ntmps55
    go_wp2
    go_ret
    exact ⟨ret_bool (by rw [HN.out, h0]; simp), rfl⟩
  · have h1 : 1 ≤ s.size := by omega
    have h1' : 0 < s.size := by omega
    by_cases h16 : s.size ≤ 16
    · have e1 : N = chk s.data.toList 0 := by
        rw [hN, decide_eq_true (by omega), decide_eq_true h16]; simp
      have hst := chk_step s 0 h1'
      obtain ⟨x, hx⟩ : ∃ x, s[0]'h1' = x := ⟨_, rfl⟩
      have hx8 := x.toNat_lt
      rw [hx] at hst
      have hb := letter_any x.toNat (by omega)
      obtain ⟨b, hbb⟩ : ∃ b, letter x.toNat = b := ⟨_, rfl⟩
      rw [hbb] at hb hst
      rw [hst] at e1
      have HN : Hid (N = (b && chk s.data.toList 1)) := by rw [e1]; exact Lib.hid (by simp)
      clear hN e1 hst hbb
      cases b
      · go_enter Tryz.func55, Tryz.ntmps55
        go_wp2_with (go_at_call 77; refine (hb _).mono ?_; rintro e w' ⟨rfl, rfl⟩)
        go_ret
        exact ⟨ret_bool (by rw [HN.out]; simp), rfl⟩
      · go_enter Tryz.func55, Tryz.ntmps55
        go_wp2_with (go_at_call 77; refine (hb _).mono ?_; rintro e w' ⟨rfl, rfl⟩)
        clear hb
        clear hx
        go_loop [3] (fun i => ∃ k : Nat, 1 ≤ k ∧ k ≤ s.size ∧ i = .int .i64 k ∧ chk s.data.toList k = N) (fun i => s.size - (intOf i).toNat)
        case atStart => exact ⟨1, by omega, by omega, rfl, by rw [HN.out]; simp⟩
        case round =>
          obtain ⟨k, hk1, hk, rfl, hc⟩ := hrel
          have HC := Lib.hid hc
          clear hc
          by_cases hp : k < s.size
          · obtain ⟨y, hy⟩ : ∃ y, s[k]'hp = y := ⟨_, rfl⟩
            have hy8 := y.toNat_lt
            have hst := chk_step s k hp
            rw [hy] at hst
            have hb := letter_any y.toNat (by omega)
            have hdl := dg_lt10 y.toNat
            obtain ⟨b, hbb⟩ : ∃ b, letter y.toNat = b := ⟨_, rfl⟩
            rw [hbb] at hb hst
            have HS : Hid (N = ((b || (decide (k ≠ 0) && decide (dg y.toNat < 10))) && chk s.data.toList (k + 1))) := by rw [← HC.out, hst]; exact Lib.hid rfl
            have HD := Lib.hid hdl
            clear hst HC hbb hdl
            cases b
            · by_cases g1 : 48 ≤ y.toNat <;> by_cases g2 : y.toNat ≤ 57
              all_goals try (exfalso; omega)
              all_goals go_wp2_with (go_at_call 77; refine (hb _).mono ?_; rintro e w' ⟨rfl, rfl⟩)
              · go_round
                case rel => exact ⟨k + 1, by omega, by omega, by go_num, by rw [HS.out, decide_eq_true (HD.out.2 ⟨g1, g2⟩), decide_eq_true (show k ≠ 0 by omega)]; simp⟩
                case measure => simp [intOf]; omega
              all_goals
                go_ret
                exact ⟨ret_bool (by rw [HS.out, decide_eq_false (show ¬ dg y.toNat < 10 from fun h => by have := HD.out.1 h; omega)]; simp), rfl⟩
            · go_wp2_with (go_at_call 77; refine (hb _).mono ?_; rintro e w' ⟨rfl, rfl⟩)
              go_round
              case rel => exact ⟨k + 1, by omega, by omega, by go_num, by rw [HS.out]; simp⟩
              case measure => simp [intOf]; omega
          · obtain rfl : k = s.size := by omega
            have HP : Hid (N = true) := by rw [← HC.out, chk_end s h0]; exact Lib.hid rfl
            clear HC
            go_wp2
            go_ret
            exact ⟨ret_bool (by rw [HP.out]), rfl⟩
    · have e1 : N = false := by rw [hN, decide_eq_false h16]; simp
      have HN := Lib.hid e1
      clear hN e1
      go_enter Tryz.func55, Tryz.ntmps55
      go_wp2
      go_ret
      exact ⟨ret_bool (by rw [HN.out]), rfl⟩

/-! ### isPrintable -/
def prt (l : List UInt8) : Bool := l.all fun c => decide (32 ≤ c.toNat) && decide (c.toNat ≤ 126)
theorem prt_step (s : ByteArray) (k : Nat) (hk : k < s.size) : prt (s.data.toList.drop k) = ((decide (32 ≤ (s[k]'hk).toNat) && decide ((s[k]'hk).toNat ≤ 126)) && prt (s.data.toList.drop (k + 1))) := by
  rw [drop_at s k hk]
  rfl
set_option maxHeartbeats 1000000 in
theorem prt_any (s : ByteArray) (hs : s.size ≤ 9223372036854775807) (w : World) : Calls Tryz.prog 90 #[.string s] w fun e w' => e = .returned (.bool (prt s.data.toList)) ∧ Below w.heap.size w w' := by
  obtain ⟨N, hNN⟩ : ∃ N, prt s.data.toList = N := ⟨_, rfl⟩
  rw [hNN]
  have HN := Lib.hid hNN
  clear hNN
  go_enter Tryz.func90, Tryz.ntmps90
  go_wp2
  go_loopw [] (fun w' => ∃ pos : Nat, w' = w.iter s pos ∧ pos ≤ s.size ∧ prt (s.data.toList.drop pos) = N) (fun w' => s.size - w'.iterPos w.heap.size)
  case atStart => exact ⟨0, rfl, by omega, HN.out⟩
  case round =>
    obtain ⟨pos, rfl, hpos, hc⟩ := hrel
    have HC := Lib.hid hc
    clear hc
    by_cases hp : pos < s.size
    · obtain ⟨x, hx⟩ : ∃ x, s[pos]'hp = x := ⟨_, rfl⟩
      have hx8 := x.toNat_lt
      have hst := prt_step s pos hp
      rw [hx, HC.out] at hst
      have HS := Lib.hid hst
      clear hst HC HN
      by_cases ha : x.toNat < 128
      · have hnx : ∀ ty, (Instr.next (.pointer (some ⟨w.heap.size, 0, none⟩)) true ty).run Tryz.prog (w.iter s pos) = _ := fun ty => run_next_ascii w s pos ty hp (by rw [hx]; exact ha)
        rw [hx] at hnx
        by_cases h1 : 32 ≤ x.toNat <;> by_cases h2 : x.toNat ≤ 126
        all_goals try (exfalso; omega)
        all_goals go_wp2
        · go_roundw
          case rel => exact ⟨pos + 1, rfl, by omega, by rw [HS.out]; simp [h1, h2]⟩
          case measure => simp; omega
        all_goals
          go_ret
          exact ⟨ret_bool (by rw [HS.out]; simp [h1, h2]), below_iter _ _ _⟩
      · have hnx : ∀ ty, (Instr.next (.pointer (some ⟨w.heap.size, 0, none⟩)) true ty).run Tryz.prog (w.iter s pos) = _ := fun ty => run_next_any w s pos ty hp
        have hhi := (decode_high s pos hp (by rw [hx]; omega)).1
        have hle := decode_le s pos
        obtain ⟨⟨R, W⟩, hRW⟩ : ∃ q, Utf8.decode s pos = q := ⟨_, rfl⟩
        rw [hRW] at hnx hhi hle
        clear hRW
        simp only at hhi hle
        go_wp2
        go_ret
        exact ⟨ret_bool (by rw [HS.out, decide_eq_false (show ¬ x.toNat ≤ 126 by omega)]; simp), below_iter _ _ _⟩
    · have hnx : ∀ ty, (Instr.next (.pointer (some ⟨w.heap.size, 0, none⟩)) true ty).run Tryz.prog (w.iter s pos) = _ := fun ty => run_next_end w s pos ty hp
      obtain rfl : pos = s.size := by omega
      have HP : Hid (N = true) := by rw [← HC.out, drop_end s _ hp]; exact Lib.hid rfl
      clear HC
      go_wp2
      go_ret
      exact ⟨ret_bool (by rw [HP.out]), below_iter _ _ _⟩

/-! ### Upper -/
theorem get_mid (s : ByteArray) (k : Nat) (h : k < s.size) : s.get! k = s[k]'h := by
  have := get_at s k h
  rwa [Nat.add_zero] at this
/-- the bytes of a rune that begins with a byte from 128 on are all from 128 on, and within the text -/
theorem high_width (s : ByteArray) (pos : Nat) (h : pos < s.size) (ha : 128 ≤ (s[pos]'h).toNat) :
    1 ≤ (Utf8.decode s pos).2 ∧ pos + (Utf8.decode s pos).2 ≤ s.size ∧ ∀ k, k < (Utf8.decode s pos).2 → 128 ≤ (s.get! (pos + k)).toNat := by
  rw [Lib.decode_at]
  have h0 : 128 ≤ (s.get! pos).toNat := by rw [get_mid s pos h]; exact ha
  obtain ⟨n, hn⟩ : ∃ n, s.size - pos = n := ⟨_, rfl⟩
  rw [hn]
  unfold Lib.decodeN
  rw [if_neg (by omega)]
  repeat' split
  all_goals
    refine ⟨by simp, by simp; omega, fun k hk => ?_⟩
    simp at hk
    match k, hk with
    | 0, _ => exact h0
    | 1, _ => omega
    | 2, _ => omega
    | 3, _ => omega
    | k + 4, hk => omega
/-- a text of which the bytes below a place are great -/
def mixL (l : List UInt8) (k : Nat) : List UInt8 := (l.take k).map up ++ l.drop k
theorem mix_zero (l : List UInt8) : mixL l 0 = l := by simp [mixL]
theorem mix_end (s : ByteArray) : mixL s.data.toList s.size = upL s.data.toList := by
  unfold mixL upL
  rw [show s.data.toList.take s.size = s.data.toList from List.take_of_length_le (by simp), drop_end s _ (by omega)]
  simp
theorem mix_step (s : ByteArray) (k : Nat) (h : k < s.size) : mixL s.data.toList (k + 1) = (mixL s.data.toList k).set k (up (s[k]'h)) := by
  unfold mixL
  rw [take_up s k h, drop_at s k h]
  have hl : ((s.data.toList.take k).map up).length = k := by simp; omega
  rw [List.set_append_right _ _ (by omega), hl]
  simp
theorem mix_len (s : ByteArray) (k : Nat) : (mixL s.data.toList k).length = s.size := by
  unfold mixL
  simp
  omega
theorem mix_at (s : ByteArray) (k : Nat) (h : k < s.size) : (mixL s.data.toList k)[k]? = some (s[k]'h) := by
  unfold mixL
  have hl : ((s.data.toList.take k).map up).length = k := by simp; omega
  rw [List.getElem?_append_right (by omega), hl, drop_at s k h]
  simp
theorem up_same (c : UInt8) (h : c.toNat < 97 ∨ 122 < c.toNat) : up c = c := by
  apply UInt8.toNat_inj.1
  rw [up_toNat]
  unfold upN
  rw [if_neg (by omega)]
theorem set_same {α : Type} (l : List α) (k : Nat) (x : α) (h : l[k]? = some x) : l.set k x = l := by
  apply List.ext_getElem?
  intro j
  rw [List.getElem?_set]
  split
  · subst_vars
    split
    · exact h.symm
    · rename_i h2; rw [List.getElem?_eq_none (by omega)]
  · rfl
theorem mix_keep (s : ByteArray) (k : Nat) (h : k < s.size) (hx : (s[k]'h).toNat < 97 ∨ 122 < (s[k]'h).toNat) : mixL s.data.toList (k + 1) = mixL s.data.toList k := by
  rw [mix_step s k h, up_same _ hx, set_same _ _ _ (mix_at s k h)]
theorem mix_keeps (s : ByteArray) (k : Nat) : ∀ n, k + n ≤ s.size → (∀ j, j < n → 128 ≤ (s.get! (k + j)).toNat) → mixL s.data.toList (k + n) = mixL s.data.toList k
  | 0, _, _ => rfl
  | n + 1, h, hx => by
    rw [← mix_keeps s k n (by omega) (fun j hj => hx j (by omega)), ← Nat.add_assoc]
    have := hx n (by omega)
    rw [get_mid s (k + n) (by omega)] at this
    exact mix_keep s (k + n) (by omega) (by omega)
/-- a row of bytes, block b, as it reads -/
def RowAt (W : World) (b : Nat) (l : List UInt8) : Prop := ∀ j (h : j < l.length), W.cell? ⟨b, j, none⟩ = some (.int .u8 (l[j].toNat : Int)) ∧ W.frozen? ⟨b, j, none⟩ = false
theorem row_bytes (w : World) (s : ByteArray) : RowAt (Lib.bytesWorld w 5 s) w.heap.size s.data.toList := by
  intro j hj
  have hj' : j < s.size := by rw [← data_size]; exact hj
  refine ⟨?_, ?_⟩
  · rw [Lib.bytesWorld_cell w 5 s j hj']
    simp [List.getD, List.getElem?_eq_getElem hj]
  · have hsz : s.size ≤ (Lib.bytesCells w 5 s).size := by simp [Lib.bytesCells]
    simp [World.frozen?, Lib.bytesWorld_at_new]
    omega
theorem RowAt.iterAt {W : World} {b : Nat} {l : List UInt8} (h : RowAt W b l) {k : Nat} (hk : b ≠ k) (s : ByteArray) (p : Nat) : RowAt (W.iterAt k s p) b l := by
  intro j hj
  have e := Lib.iterAt_other W k b s p hk
  have h1 := h j hj
  refine ⟨?_, ?_⟩
  · rw [← h1.1]; simp only [World.cell?, e]
  · rw [← h1.2]; simp only [World.frozen?, e]
theorem RowAt.set {W : World} {b : Nat} {l : List UInt8} (h : RowAt W b l) (k : Nat) (hk : k < l.length) (u : UInt8) : RowAt (W.setCell ⟨b, k, none⟩ (.int .u8 (u.toNat : Int))) b (l.set k u) := by
  intro j hj
  have hj' : j < l.length := by simpa using hj
  have h1 := h j hj'
  refine ⟨?_, by rw [World.frozen?_setCell]; exact h1.2⟩
  by_cases e : j = k
  · subst e
    rw [List.getElem_set_self]
    exact World.cell?_setCell_same _ _ _ h1.1
  · rw [List.getElem_set_ne (Ne.symm e), World.cell?_setCell_other _ _ _ _ (fun h => e (by cases h; rfl))]
    exact h1.1
theorem row_str {W : World} {b cap : Nat} {l : List UInt8} (h : RowAt W b l) : (convert 59 9 (.slice (some ⟨b, 0, none⟩) l.length cap)).run Tryz.prog W = .ok (.string ⟨l.toArray⟩) W :=
  run_convert_bytes_back W 59 9 5 ⟨b, 0, none⟩ cap l Tryz.underlying59 Tryz.underlying5 Tryz.underlying9 fun j hj => by
    have := (h j hj).1
    have e : (⟨b, 0, none⟩ : Addr).add j = ⟨b, j, none⟩ := by unfold Addr.add; split <;> simp_all
    rw [e]
    exact this
set_option maxHeartbeats 1000000 in
theorem upper_any (s : ByteArray) (hs : s.size < 140737488355328) (w : World) : Calls Tryz.prog 68 #[.string s] w fun e w' => e = .returned (.string ⟨(upL s.data.toList).toArray⟩) ∧ Below w.heap.size w w' := by
  have hcv := Lib.run_convert_string_bytes (P := Tryz.prog) w 9 59 5 s Tryz.underlying9 Tryz.underlying59 Tryz.underlying5
  have hrow := row_bytes w s
  have hsz := Lib.bytesWorld_size w 5 s
  have hbel : Below w.heap.size w (Lib.bytesWorld w 5 s) := ⟨rfl, rfl, rfl, by rw [hsz]; omega, fun i hi => Lib.bytesWorld_at_old w 5 s i hi⟩
  obtain ⟨W1, hW1⟩ : ∃ W1, Lib.bytesWorld w 5 s = W1 := ⟨_, rfl⟩
  obtain ⟨cap, hcap⟩ : ∃ cap, grownCap w s.size 0 5 = cap := ⟨_, rfl⟩
  rw [hW1] at hcv hrow hsz hbel
  rw [hcap] at hcv
  clear hW1 hcap
  have HZ := Lib.hid hsz
  clear hsz
  go_enter Tryz.func68, Tryz.ntmps68
  go_wp2
  go_loopw [] (fun wr => ∃ pos : Nat, wr.heap[W1.heap.size]? = some (.stringIter s pos) ∧ pos ≤ s.size ∧ RowAt wr w.heap.size (mixL s.data.toList pos) ∧ Below w.heap.size w wr) (fun wr => s.size - wr.iterPos W1.heap.size)
  case atStart => exact ⟨0, World.iter_heap _ _ _, by omega, by rw [mix_zero]; exact fun j hj => ⟨cell_alloc _ (hrow j hj).1, by rw [(below_iter W1 s 0).frozen (p := ⟨w.heap.size, j, none⟩) (by have := HZ.out; simp; omega)]; exact (hrow j hj).2⟩, hbel.trans ((Below.refl _ _).alloc (by have := HZ.out; omega) _)⟩
  case round =>
    obtain ⟨pos, hit, hpos, hr, hB⟩ := hrel
    have hlt1 : w.heap.size ≠ W1.heap.size := by have := HZ.out; omega
    have hle1 : w.heap.size ≤ W1.heap.size := by have := HZ.out; omega
    have hip := iterPos_of hit
    have HI := Lib.hid hit
    have HR := Lib.hid hr
    have HL := Lib.hid hip
    clear hrow hip
    by_cases hp : pos < s.size
    · obtain ⟨x, hx⟩ : ∃ x, s[pos]'hp = x := ⟨_, rfl⟩
      have hx8 := x.toNat_lt
      by_cases ha : x.toNat < 128
      · have hnx : ∀ ty, (Instr.next (.pointer (some ⟨W1.heap.size, 0, none⟩)) true ty).run Tryz.prog wr = _ := fun ty => Lib.run_next_ascii_at wr W1.heap.size s pos ty hit hp (by rw [hx]; exact ha)
        rw [hx] at hnx
        have hpl : pos < (mixL s.data.toList pos).length := by rw [mix_len]; exact hp
        have hr2 := hr.iterAt hlt1 s (pos + 1)
        have hc := hr2 pos hpl
        have hm := mix_at s pos hp
        rw [List.getElem?_eq_getElem hpl, Option.some_inj, hx] at hm
        rw [hm] at hc
        obtain ⟨hc1, hc2⟩ := hc
        have HR2 := Lib.hid hr2
        have hb := isSmall_any x.toNat (by omega)
        have hpi := iterPos_of (Lib.iterAt_heap wr W1.heap.size s pos (pos + 1) hit)
        have HW := Lib.hid (Lib.iterAt_heap wr W1.heap.size s pos (pos + 1) hit)
        have hB2 := Lib.below_iterAt hB hle1 s (pos + 1)
        clear hr hr2 hit hm
        by_cases h1 : 97 ≤ x.toNat ∧ x.toNat ≤ 122
        · rw [decide_eq_true h1.1, decide_eq_true h1.2] at hb
          obtain ⟨h1, h2⟩ := h1
          go_wp2_with (go_at_call 84; refine (hb _).mono ?_; rintro e w' ⟨rfl, rfl⟩)
          have hx' : x = s[pos]'hp := hx.symm
          have hu : ((up x).toNat : Int) = (x.toNat : Int) - 97 + 65 := by
            rw [up_toNat]; unfold upN; rw [if_pos ⟨h1, h2⟩]; omega
          go_roundw
          case rel =>
            refine ⟨pos + 1, ?_, by omega, ?_, hB2.setCell (Nat.le_refl _) _⟩
            · rw [Below.heap_setCell _ _ _ _ (by simp; omega)]; exact HW.out
            · rw [mix_step s pos hp, ← hx', ← hu]
              exact HR2.out.set pos hpl (up x)
          case measure =>
            rw [HL.out, iterPos_of (by rw [Below.heap_setCell _ _ _ _ (by simp; omega)]; exact HW.out)]; omega
        · have hb' : (decide (97 ≤ x.toNat) && decide (x.toNat ≤ 122)) = false := by
            rw [Bool.eq_false_iff]; intro h; simp at h; exact h1 h
          rw [hb'] at hb
          clear hb'
          go_wp2_with (go_at_call 84; refine (hb _).mono ?_; rintro e w' ⟨rfl, rfl⟩)
          go_roundw
          case rel =>
            refine ⟨pos + 1, HW.out, by omega, ?_, hB2⟩
            rw [mix_keep s pos hp (by rw [hx]; omega)]
            exact HR2.out
          case measure => rw [HL.out, iterPos_of HW.out]; omega
      · have hnx : ∀ ty, (Instr.next (.pointer (some ⟨W1.heap.size, 0, none⟩)) true ty).run Tryz.prog wr = _ := fun ty => Lib.run_next_any_at wr W1.heap.size s pos ty hit hp
        have hhi := (decode_high s pos hp (by rw [hx]; omega)).1
        have hle := decode_le s pos
        have hwd := high_width s pos hp (by rw [hx]; omega)
        obtain ⟨⟨R, W⟩, hRW⟩ : ∃ q, Utf8.decode s pos = q := ⟨_, rfl⟩
        rw [hRW] at hnx hhi hle hwd
        clear hRW
        simp only at hhi hle hwd
        obtain ⟨hw1, hw2, hw3⟩ := hwd
        have hb := isSmall_any R hle
        rw [decide_eq_false (show ¬ R ≤ 122 by omega), Bool.and_false] at hb
        have HM := Lib.hid (mix_keeps s pos W hw2 hw3)
        have HR2 := Lib.hid (hr.iterAt hlt1 s (pos + W))
        have HW := Lib.hid (Lib.iterAt_heap wr W1.heap.size s pos (pos + W) hit)
        have hB2 := Lib.below_iterAt hB hle1 s (pos + W)
        clear hr hit hw3
        go_wp2_with (go_at_call 84; refine (hb _).mono ?_; rintro e w' ⟨rfl, rfl⟩)
        go_roundw
        case rel => exact ⟨pos + W, HW.out, by omega, by rw [HM.out]; exact HR2.out, hB2⟩
        case measure => rw [HL.out, iterPos_of HW.out]; omega
    · have hnx : ∀ ty, (Instr.next (.pointer (some ⟨W1.heap.size, 0, none⟩)) true ty).run Tryz.prog wr = _ := fun ty => Lib.run_next_end_at wr W1.heap.size s pos ty hit hp
      obtain rfl : pos = s.size := by omega
      have hst := row_str (cap := cap) hr
      rw [mix_end, show (upL s.data.toList).length = s.size by simp [upL]] at hst
      have HB := Lib.hid hB
      clear hr hit hB HR
      go_wp2
      go_ret
      exact ⟨rfl, HB.out⟩
end Go.Proofs.YtaoeipbofhkkcaaGreatDoor
