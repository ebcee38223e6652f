/- What the document's in, Reserved and Rename answer; a name is short. -/
import Derived.Test.YtlindlmcojmhcaaDoorIsWords
namespace Go.Proofs.YtlindlmcojmhcaaDoor
open Go.RowKit

theorem ztake_not {l : List (List UInt8)} {k : Nat} {x y : List UInt8} (h : l[k]? = some y) (hx : x ∉ l.take k) (hne : x ≠ y) : x ∉ l.take (k + 1) := by
  rw [List.take_add_one, h]
  simp [hx, hne]
set_option maxHeartbeats 1000000 in
theorem in_any (t : List UInt8) (ht : t.length ≤ 1000) (hw : (wordsL t).length ≤ 1000) (s : List UInt8) (w : World) : Calls Tryd.prog 37 #[.string ⟨t.toArray⟩, .string ⟨s.toArray⟩] w fun e w' => e = .returned (.bool (decide (s ∈ wordsL t))) ∧ Below w.heap.size w w' := by
  have HW := Lib.hid (words_any t ht w)
  generalize wordsL t = l at HW hw ⊢
  obtain ⟨n, hn⟩ : ∃ n, l.length = n := ⟨_, rfl⟩
  have HN := Lib.hid hn
  rw [hn] at hw
  clear hn
  have HD : Hid (∀ k, l[k]? = some s → decide (s ∈ l) = true) := Lib.hid fun k h => decide_eq_true (List.mem_of_getElem? h)
  have HE : Hid (s ∉ l.take n → decide (s ∈ l) = false) := Lib.hid fun h => decide_eq_false (by rwa [List.take_of_length_le (by rw [HN.out]; exact Nat.le_refl _)] at h)
  generalize decide (s ∈ l) = d at HD HE ⊢
  go_enter Tryd.func37, Tryd.ntmps37
  go_wp2_with (go_at_call 24; refine HW.out.mono ?_; rintro _ w1 ⟨v, rfl, ⟨b, o, sp, c, rfl, hc, h2, h3⟩, hb1⟩; rw [HN.out] at hc; rw [HN.out]; have HB := Lib.hid hb1; have H2 := Lib.hid h2; have H3 := Lib.hid h3; clear hb1 h2 h3)
  go_loopw [6] (fun i wr => ∃ k : Nat, k ≤ n ∧ i = .int .i64 k ∧ wr = w1 ∧ Hid (s ∉ l.take k)) (fun i _ => n - (intOf i).toNat)
  case atStart => exact ⟨0, Nat.zero_le _, rfl, rfl, Lib.hid (by simp)⟩
  case round =>
    obtain ⟨k, hk, rfl, rfl, hx⟩ := hrel
    by_cases hlt : k < n
    · have hi : k < l.length := by rw [HN.out]; exact hlt
      obtain ⟨y, hy⟩ : ∃ y, l[k]? = some y := ⟨_, List.getElem?_eq_getElem hi⟩
      obtain rfl := H2.out (by rw [HN.out]; omega)
      have k0 := H3.out k y hy
      unfold strV at k0
      have HY := Lib.hid hy
      clear hy
      by_cases he : y = s
      · subst he
        have hd := HD.out k HY.out
        subst hd
        have hyy : (y == y) = true := by simp
        go_wp2
        go_ret
        exact ⟨rfl, HB.out⟩
      · have hbb : (y == s) = false := by rw [beq_eq_false_iff_ne]; exact he
        go_wp2
        go_roundw
        case rel => exact ⟨k + 1, by omega, by go_num, by first | rfl | trivial, Lib.hid (ztake_not HY.out hx.out fun e => he e.symm)⟩
        case measure => simp [intOf]; omega
    · obtain rfl : k = n := by omega
      have hd := HE.out hx.out
      subst hd
      go_wp2
      go_ret
      exact ⟨rfl, HB.out⟩
/-! ### Reserved -/
def intelT : List UInt8 := [65, 32, 66, 32, 67, 32, 68, 32, 69, 32, 72, 32, 76, 32, 77, 32, 83, 80, 32, 80, 83, 87]
def zilogT : List UInt8 := [65, 32, 66, 32, 67, 32, 68, 32, 69, 32, 72, 32, 76, 32, 65, 70, 32, 66, 67, 32, 68, 69, 32, 72, 76, 32, 83, 80, 32, 78, 90, 32, 90, 32, 78, 67, 32, 80, 79, 32, 80, 69, 32, 80, 32, 77]
def eightT : List UInt8 := [65, 76, 32, 67, 76, 32, 68, 76, 32, 66, 76, 32, 65, 72, 32, 67, 72, 32, 68, 72, 32, 66, 72, 32, 65, 88, 32, 67, 88, 32, 68, 88, 32, 66, 88, 32, 83, 80, 32, 66, 80, 32, 83, 73, 32, 68, 73]
def allT : List UInt8 := [79, 82, 32, 88, 79, 82, 32, 65, 78, 68, 32, 78, 79, 84, 32, 77, 79, 68, 32, 83, 72, 76, 32, 83, 72, 82]
def resT (t s : List UInt8) : Bool := decide (s ∈ wordsL t) || decide (s ∈ wordsL allT)
/-- which words a dialect keeps -/
def resL (d : Int) (s : List UInt8) : Bool := if d = 0 then resT intelT s else if d = 1 then resT zilogT s else if d = 2 then resT eightT s else false
theorem res_tail (t s : List UInt8) (ht : t.length ≤ 1000) (hw : (wordsL t).length ≤ 1000) : Hid (∀ w : World, Calls Tryd.prog 37 #[.string ⟨t.toArray⟩, .string ⟨s.toArray⟩] w fun e w' => e = .returned (.bool (decide (s ∈ wordsL t))) ∧ Below w.heap.size w w') := Lib.hid (in_any t ht hw s)
theorem zbelow_step {w W w1 : World} (h : Below w.heap.size w W) (hb : Below W.heap.size W w1) : Below w.heap.size w w1 := h.trans (hb.mono h.size)
set_option maxHeartbeats 1000000 in
theorem reserved_any (d : Int) (s : List UInt8) (w : World) : Calls Tryd.prog 17 #[.int .i64 d, .string ⟨s.toArray⟩] w fun e w' => e = .returned (.bool (resL d s)) ∧ Below w.heap.size w w' := by
  have HA := res_tail allT s (by decide) (by decide)
  unfold resL resT
  by_cases h0 : d = 0
  · subst h0
    rw [if_pos rfl]
    have HT := res_tail intelT s (by decide) (by decide)
    generalize decide (s ∈ wordsL allT) = qa at HA ⊢
    generalize decide (s ∈ wordsL intelT) = qt at HT ⊢
    cases qt
    · cases qa <;>
      · go_enter Tryd.func17, Tryd.ntmps17
        go_wp2_with (first
          | (go_at_call 37; refine (HT.out _).mono ?_; rintro _ w1 ⟨rfl, hb1⟩; have HB1 := Lib.hid hb1; clear hb1 HT)
          | (go_at_call 37; refine (HA.out _).mono ?_; rintro _ w2 ⟨rfl, hb1⟩; have HB2 := Lib.hid (zbelow_step HB1.out hb1); clear hb1 HA))
        go_ret
        exact ⟨rfl, HB2.out⟩
    · go_enter Tryd.func17, Tryd.ntmps17
      go_wp2_with (go_at_call 37; refine (HT.out _).mono ?_; rintro _ w1 ⟨rfl, hb1⟩; have HB1 := Lib.hid hb1; clear hb1 HT)
      go_ret
      exact ⟨by simp, HB1.out⟩
  rw [if_neg h0]
  have b0 : (d == 0) = false := by rw [beq_eq_false_iff_ne]; exact h0
  by_cases h1 : d = 1
  · subst h1
    rw [if_pos rfl]
    have HT := res_tail zilogT s (by decide) (by decide)
    generalize decide (s ∈ wordsL allT) = qa at HA ⊢
    generalize decide (s ∈ wordsL zilogT) = qt at HT ⊢
    cases qt
    · cases qa <;>
      · go_enter Tryd.func17, Tryd.ntmps17
        go_wp2_with (first
          | (go_at_call 37; refine (HT.out _).mono ?_; rintro _ w1 ⟨rfl, hb1⟩; have HB1 := Lib.hid hb1; clear hb1 HT)
          | (go_at_call 37; refine (HA.out _).mono ?_; rintro _ w2 ⟨rfl, hb1⟩; have HB2 := Lib.hid (zbelow_step HB1.out hb1); clear hb1 HA))
        go_ret
        exact ⟨rfl, HB2.out⟩
    · go_enter Tryd.func17, Tryd.ntmps17
      go_wp2_with (go_at_call 37; refine (HT.out _).mono ?_; rintro _ w1 ⟨rfl, hb1⟩; have HB1 := Lib.hid hb1; clear hb1 HT)
      go_ret
      exact ⟨by simp, HB1.out⟩
  rw [if_neg h1]
  have b1 : (d == 1) = false := by rw [beq_eq_false_iff_ne]; exact h1
  by_cases h2 : d = 2
  · subst h2
    rw [if_pos rfl]
    have HT := res_tail eightT s (by decide) (by decide)
    generalize decide (s ∈ wordsL allT) = qa at HA ⊢
    generalize decide (s ∈ wordsL eightT) = qt at HT ⊢
    cases qt
    · cases qa <;>
      · go_enter Tryd.func17, Tryd.ntmps17
        go_wp2_with (first
          | (go_at_call 37; refine (HT.out _).mono ?_; rintro _ w1 ⟨rfl, hb1⟩; have HB1 := Lib.hid hb1; clear hb1 HT)
          | (go_at_call 37; refine (HA.out _).mono ?_; rintro _ w2 ⟨rfl, hb1⟩; have HB2 := Lib.hid (zbelow_step HB1.out hb1); clear hb1 HA))
        go_ret
        exact ⟨rfl, HB2.out⟩
    · go_enter Tryd.func17, Tryd.ntmps17
      go_wp2_with (go_at_call 37; refine (HT.out _).mono ?_; rintro _ w1 ⟨rfl, hb1⟩; have HB1 := Lib.hid hb1; clear hb1 HT)
      go_ret
      exact ⟨by simp, HB1.out⟩
  rw [if_neg h2]
  have b2 : (d == 2) = false := by rw [beq_eq_false_iff_ne]; exact h2
  go_enter Tryd.func17, Tryd.ntmps17
  go_wp2
  go_ret
  exact ⟨rfl, Below.refl _ _⟩
/-! ### Rename -/
/-- a name without the _ behind it -/
def stripL (s : List UInt8) : List UInt8 := (s.reverse.dropWhile fun c => c == 95).reverse
theorem strip_snoc (s : List UInt8) : stripL (s ++ [95]) = stripL s := by simp [stripL]
theorem strip_other (s : List UInt8) (c : UInt8) (h : c ≠ 95) : stripL (s ++ [c]) = s ++ [c] := by
  have : (c == 95) = false := by rw [beq_eq_false_iff_ne]; exact h
  simp [stripL, this]
/-- what a name is in Zilog's, and why it is none -/
def renameL (s : List UInt8) : List UInt8 × Nat := if resL 1 (stripL s) = false ∨ resL 0 (stripL s) = true then (s, 0) else if 16 ≤ s.length then ([], 11) else (s ++ [95], 0)
theorem extract_take (s : List UInt8) (k : Nat) : (⟨s.toArray⟩ : ByteArray).extract 0 k = ⟨(s.take k).toArray⟩ := by
  apply ByteArray.ext
  rw [ByteArray.data_extract]
  apply Array.toList_inj.1
  rw [Array.toList_extract, List.extract_eq_take_drop]
  show (s.drop 0).take (k - 0) = s.take k
  rw [List.drop_zero, Nat.sub_zero]
theorem take_succ_at {s : List UInt8} {k : Nat} (h : k < s.length) : s.take (k + 1) = s.take k ++ [s[k]'h] := by
  rw [List.take_succ_eq_append_getElem h]
theorem toNat95 (x : UInt8) : x.toNat = 95 ↔ x = 95 := by
  rw [← UInt8.toNat_inj]; rfl
set_option maxHeartbeats 2000000 in
theorem zrename_any (s : List UInt8) (hs : s.length ≤ 1000) (w : World) : Calls Tryd.prog 15 #[.string ⟨s.toArray⟩] w fun e w' => e = .returned (.tuple #[.string ⟨(renameL s).1.toArray⟩, .int .i64 ((renameL s).2 : Nat)]) ∧ Below w.heap.size w w' := by
  have HR1 := Lib.hid (fun w => reserved_any 1 (stripL s) w)
  have HR0 := Lib.hid (fun w => reserved_any 0 (stripL s) w)
  unfold renameL
  obtain ⟨bs, hbs⟩ : ∃ bs, stripL s = bs := ⟨_, rfl⟩
  have HBS := Lib.hid hbs
  rw [hbs] at HR1 HR0 ⊢
  clear hbs
  generalize resL 1 bs = r1 at HR1 ⊢
  generalize resL 0 bs = r0 at HR0 ⊢
  go_enter Tryd.func15, Tryd.ntmps15
  go_wp2
  go_loopw [4] (fun i wr => ∃ k : Nat, k ≤ s.length ∧ i = .int .i64 k ∧ wr = w ∧ Hid (stripL (s.take k) = bs)) (fun i _ => (intOf i).toNat)
  case atStart => exact ⟨s.length, Nat.le_refl _, rfl, rfl, Lib.hid (by rw [List.take_length]; exact HBS.out)⟩
  case round =>
    obtain ⟨k, hk, rfl, rfl, hx⟩ := hrel
    have key : (∃ j, k = j + 1 ∧ ∃ h : j < s.length, s[j]'h = 95) ∨ (s.take k = bs ∧ (k = 0 ∨ ∃ j, k = j + 1 ∧ ∃ h : j < s.length, s[j]'h ≠ 95)) := by
      rcases Nat.eq_zero_or_pos k with h0 | h0
      · right
        subst h0
        exact ⟨by rw [← hx.out]; rfl, .inl rfl⟩
      · obtain ⟨j, rfl⟩ : ∃ j, k = j + 1 := ⟨k - 1, by omega⟩
        have hj : j < s.length := by omega
        by_cases hc : s[j]'hj = 95
        · exact .inl ⟨j, rfl, hj, hc⟩
        · refine .inr ⟨?_, .inr ⟨j, rfl, hj, hc⟩⟩
          rw [← hx.out, take_succ_at hj, strip_other _ _ hc]
    rcases key with ⟨j, rfl, hj, hc⟩ | ⟨he, hend⟩
    · have hc' : (⟨s.toArray⟩ : ByteArray)[j]'hj = 95 := hc
      go_wp2
      go_roundw
      case rel => exact ⟨j, by omega, by go_num, by first | rfl | trivial, Lib.hid (by rw [← hx.out, take_succ_at hj, hc, strip_snoc])⟩
      case measure => simp [intOf]
    · rcases hend with rfl | ⟨j, rfl, hj, hc⟩
      · obtain rfl : bs = [] := by rw [← he]; rfl
        have hx0 : (⟨s.toArray⟩ : ByteArray).extract 0 0 = ⟨#[]⟩ := by rw [extract_take]; rfl
        clear hx he HBS
        cases r1
        · go_wp2_with (go_at_call 17; refine (HR1.out _).mono ?_; rintro _ w1 ⟨rfl, hb1⟩; have HB1 := Lib.hid hb1; clear hb1 HR1)
          go_ret2
          exact ⟨by simp, HB1.out⟩
        · cases r0
          · by_cases h16 : 16 ≤ s.length
            · have hd : decide ((16 : Int) ≤ s.length) = true := decide_eq_true (by omega)
              go_wp2_with (first
                | (go_at_call 17; refine (HR1.out _).mono ?_; rintro _ w1 ⟨rfl, hb1⟩; have HB1 := Lib.hid hb1; clear hb1 HR1)
                | (go_at_call 17; refine (HR0.out _).mono ?_; rintro _ w2 ⟨rfl, hb1⟩; have HB2 := Lib.hid (zbelow_step HB1.out hb1); clear hb1 HR0))
              go_ret2
              exact ⟨by simp, HB2.out⟩
            · have hd : decide ((16 : Int) ≤ s.length) = false := decide_eq_false (by omega)
              go_wp2_with (first
                | (go_at_call 17; refine (HR1.out _).mono ?_; rintro _ w1 ⟨rfl, hb1⟩; have HB1 := Lib.hid hb1; clear hb1 HR1)
                | (go_at_call 17; refine (HR0.out _).mono ?_; rintro _ w2 ⟨rfl, hb1⟩; have HB2 := Lib.hid (zbelow_step HB1.out hb1); clear hb1 HR0))
              go_ret2
              exact ⟨by simp; exact ByteArray.mk_append_mk s [95], HB2.out⟩
          · go_wp2_with (first
              | (go_at_call 17; refine (HR1.out _).mono ?_; rintro _ w1 ⟨rfl, hb1⟩; have HB1 := Lib.hid hb1; clear hb1 HR1)
              | (go_at_call 17; refine (HR0.out _).mono ?_; rintro _ w2 ⟨rfl, hb1⟩; have HB2 := Lib.hid (zbelow_step HB1.out hb1); clear hb1 HR0))
            go_ret2
            exact ⟨by simp, HB2.out⟩
      · have hx0 : (⟨s.toArray⟩ : ByteArray).extract 0 (j + 1) = ⟨bs.toArray⟩ := by rw [extract_take, he]
        clear hx he HBS
        obtain ⟨x, hxx⟩ : ∃ x, s[j]'hj = x := ⟨_, rfl⟩
        have hxa : (⟨s.toArray⟩ : ByteArray)[j]'hj = x := hxx
        have hxb : ((x.toNat : Int) == 95) = false := by
          rw [beq_eq_false_iff_ne]
          intro e
          exact hc (hxx.trans ((toNat95 x).1 (by omega)))
        clear hc hxx
        cases r1
        · go_wp2_with (go_at_call 17; refine (HR1.out _).mono ?_; rintro _ w1 ⟨rfl, hb1⟩; have HB1 := Lib.hid hb1; clear hb1 HR1)
          go_ret2
          exact ⟨by simp, HB1.out⟩
        · cases r0
          · by_cases h16 : 16 ≤ s.length
            · have hd : decide ((16 : Int) ≤ s.length) = true := decide_eq_true (by omega)
              go_wp2_with (first
                | (go_at_call 17; refine (HR1.out _).mono ?_; rintro _ w1 ⟨rfl, hb1⟩; have HB1 := Lib.hid hb1; clear hb1 HR1)
                | (go_at_call 17; refine (HR0.out _).mono ?_; rintro _ w2 ⟨rfl, hb1⟩; have HB2 := Lib.hid (zbelow_step HB1.out hb1); clear hb1 HR0))
              go_ret2
              exact ⟨by simp, HB2.out⟩
            · have hd : decide ((16 : Int) ≤ s.length) = false := decide_eq_false (by omega)
              go_wp2_with (first
                | (go_at_call 17; refine (HR1.out _).mono ?_; rintro _ w1 ⟨rfl, hb1⟩; have HB1 := Lib.hid hb1; clear hb1 HR1)
                | (go_at_call 17; refine (HR0.out _).mono ?_; rintro _ w2 ⟨rfl, hb1⟩; have HB2 := Lib.hid (zbelow_step HB1.out hb1); clear hb1 HR0))
              go_ret2
              exact ⟨by simp; exact ByteArray.mk_append_mk s [95], HB2.out⟩
          · go_wp2_with (first
              | (go_at_call 17; refine (HR1.out _).mono ?_; rintro _ w1 ⟨rfl, hb1⟩; have HB1 := Lib.hid hb1; clear hb1 HR1)
              | (go_at_call 17; refine (HR0.out _).mono ?_; rintro _ w2 ⟨rfl, hb1⟩; have HB2 := Lib.hid (zbelow_step HB1.out hb1); clear hb1 HR0))
            go_ret2
            exact ⟨by simp, HB2.out⟩
end Go.Proofs.YtlindlmcojmhcaaDoor
