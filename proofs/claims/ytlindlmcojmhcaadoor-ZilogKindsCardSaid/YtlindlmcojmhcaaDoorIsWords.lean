/- What the document's Words answers: the words of a text, with one space between; the text is short. -/
import Derived.Test.YtlindlmcojmhcaaDoorIsTxt
import Derived.LoopTactic
namespace Go.Proofs.YtlindlmcojmhcaaDoor
open Go.RowKit

theorem drop_at (s : List UInt8) (p : Nat) (h : p < s.length) : s.drop p = s[p]'h :: s.drop (p + 1) := List.drop_eq_getElem_cons h
theorem wordsA_step (out : List (List UInt8)) (m s : List UInt8) (k : Nat) (h : k < s.length) : wordsA out m (s.drop k) = if s[k]'h = 32 then wordsA (out ++ [m]) [] (s.drop (k + 1)) else wordsA out (m ++ [s[k]'h]) (s.drop (k + 1)) := by
  rw [drop_at s k h, wordsA]
theorem toNat32 (x : UInt8) : x.toNat = 32 ↔ x = 32 := by
  rw [← UInt8.toNat_inj]; rfl
theorem extract_one (s : List UInt8) (k : Nat) (h : k < s.length) : (⟨s.toArray⟩ : ByteArray).extract k (k + 1) = ⟨[s[k]'h].toArray⟩ := by
  apply ByteArray.ext
  rw [ByteArray.data_extract]
  apply Array.toList_inj.1
  rw [Array.toList_extract, List.extract_eq_take_drop, show k + 1 - k = 1 by omega]
  show (s.drop k).take 1 = [s[k]'h]
  rw [drop_at s k h]
  rfl
set_option maxHeartbeats 1000000 in
theorem words_any (s : List UInt8) (hs : s.length ≤ 1000) (w : World) : Calls Tryd.prog 24 #[.string ⟨s.toArray⟩] w fun e w' => ∃ v, e = .returned v ∧ TextR w' v (wordsL s) ∧ Below w.heap.size w w' := by
  go_enter Tryd.func24, Tryd.ntmps24
  go_wp2
  go_loopw [3, 4, 5] (fun v m i wr => ∃ (l : List (List UInt8)) (ms : List UInt8) (k : Nat), k ≤ s.length ∧ i = .int .i64 k ∧ m = .string ⟨ms.toArray⟩ ∧ l.length + ms.length ≤ k ∧ wr.ownsRow w.heap.size 9 1 v l.length (strs l) ∧ wordsA l ms (s.drop k) = wordsL s ∧ Below w.heap.size w wr) (fun _ _ i _ => s.length - (intOf i).toNat)
  case atStart => exact ⟨[], [], 0, Nat.zero_le _, rfl, rfl, Nat.le_refl _, World.ownsRow_nil _ _ _ _, rfl, Below.refl _ _⟩
  case round =>
    obtain ⟨l, ms, k, hk, rfl, rfl, hlm, hown, hE, hB⟩ := hrel
    have hsz := hB.size
    obtain ⟨so, co, rfl⟩ := own_slice hown
    by_cases hlt : k < s.length
    · have hT := wordsA_step l ms s k hlt
      obtain ⟨x, hx⟩ : ∃ x, s[k]'hlt = x := ⟨_, rfl⟩
      have hx8 := x.toNat_lt
      rw [hx, hE] at hT
      have hxa : (⟨s.toArray⟩ : ByteArray)[k]'hlt = x := hx
      by_cases h32 : x.toNat = 32
      · obtain rfl := (toNat32 x).1 h32
        rw [if_pos rfl] at hT
        have HT := Lib.hid hT
        clear hT hE h32
        go_wp2_with (at_builtin; refine wpList_append_str rfl (.tmp 16) (.tmp 18) rfl w.heap.size _ l.length l rfl (World.ownsRow.alloc hown _) (by omega) ⟨wr.heap.size, 0, none⟩ 1 ms rfl (cell_new _ _ _) (by simp; omega) ?_; intro v3 w3 hown3 hb3)
        go_roundw
        case rel => exact ⟨l ++ [ms], [], k + 1, by omega, by go_num, rfl, by simp; omega, by rw [List.length_append]; exact hown3, HT.out.symm, (hB.alloc hsz _).trans hb3⟩
        case measure => simp [intOf]; omega
      · have h32' : x ≠ 32 := fun e => h32 ((toNat32 x).2 e)
        have hb32 : ((x.toNat : Int) == 32) = false := by rw [beq_eq_false_iff_ne]; omega
        rw [if_neg h32'] at hT
        have HT := Lib.hid hT
        clear hT hE
        go_wp2
        go_roundw
        case rel =>
          refine ⟨l, ms ++ [x], k + 1, by omega, by go_num, ?_, by simp; omega, hown, HT.out.symm, hB⟩
          rw [extract_one s k hlt, hx, ByteArray.mk_append_mk]
        case measure => simp [intOf]; omega
    · obtain rfl : k = s.length := by omega
      rw [List.drop_length, wordsA] at hE
      by_cases hm : ms = []
      · subst hm
        rw [if_pos rfl] at hE
        go_wp2
        go_ret
        exact ⟨_, rfl, hE ▸ textR_of_own hown rfl, hB⟩
      · rw [if_neg hm] at hE
        have hme : ms.isEmpty = false := by cases ms with | nil => exact absurd rfl hm | cons => rfl
        go_wp2_with (at_builtin; refine wpList_append_str rfl (.tmp 29) (.tmp 31) rfl w.heap.size _ l.length l rfl (World.ownsRow.alloc hown _) (by omega) ⟨wr.heap.size, 0, none⟩ 1 ms rfl (cell_new _ _ _) (by simp; omega) ?_; intro v3 w3 hown3 hb3)
        go_ret
        exact ⟨_, rfl, hE ▸ textR_of_own hown3 (by simp), (hB.alloc hsz _).trans hb3⟩
end Go.Proofs.YtlindlmcojmhcaaDoor
