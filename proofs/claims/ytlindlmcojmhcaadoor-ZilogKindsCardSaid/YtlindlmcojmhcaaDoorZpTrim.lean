/- What strings.TrimRight of _ answers: a name without the _ behind it; the name is short. -/
import Derived.Test.YtlindlmcojmhcaaDoorZNames
import Derived.LoopTactic
namespace Go.Proofs.YtlindlmcojmhcaaDoor
open Go.RowKit

def sizeV : Value → Nat
  | .string b => b.size
  | _ => 0
theorem sizeV_str (l : List UInt8) : sizeV (.string ⟨l.toArray⟩) = l.length := by simp [sizeV, ByteArray.size]
set_option maxHeartbeats 2000000 in
theorem trimByte_any (s : List UInt8) (hs : s.length ≤ 100000) (w : World) : Calls Tryd.prog 49 #[.string ⟨s.toArray⟩, .int .u8 95] w fun e w' => e = .returned (.string ⟨(stripL s).toArray⟩) ∧ w' = w := by
  obtain ⟨bs, hbs⟩ : ∃ bs, stripL s = bs := ⟨_, rfl⟩
  have HBS := Lib.hid hbs
  rw [hbs]
  clear hbs
  go_enter Tryd.func49, Tryd.ntmps49
  go_wp2
  go_loopw [0] (fun v wr => ∃ t : List UInt8, t.length ≤ 100000 ∧ v = .string ⟨t.toArray⟩ ∧ wr = w ∧ Hid (stripL t = bs)) (fun v _ => sizeV v)
  case atStart => exact ⟨s, hs, rfl, rfl, HBS⟩
  case round =>
    obtain ⟨t, hl, rfl, rfl, hx⟩ := hrel
    cases hn : t.length with
    | zero =>
      obtain rfl := List.eq_nil_of_length_eq_zero hn
      obtain rfl : bs = [] := by rw [← hx.out]; rfl
      clear hx HBS hn hl
      go_wp2
      go_ret
      exact ⟨rfl, rfl⟩
    | succ n =>
      have hj : n < t.length := by omega
      have ht : t = t.take n ++ [t[n]'hj] := by
        rw [← List.take_succ_eq_append_getElem hj, List.take_of_length_le (by omega)]
      have hx0 : (⟨t.toArray⟩ : ByteArray).extract 0 n = ⟨(t.take n).toArray⟩ := extract_take t n
      obtain ⟨x, hxx⟩ : ∃ x, t[n]'hj = x := ⟨_, rfl⟩
      have hxa : (⟨t.toArray⟩ : ByteArray)[n]'hj = x := hxx
      by_cases hc : x = 95
      · subst hc
        have HN : Hid (stripL (t.take n) = bs) := Lib.hid (by rw [← hx.out]; conv => rhs; rw [ht, hxx, strip_snoc])
        clear hxx ht hx
        go_wp2
        go_roundw
        case rel => exact ⟨t.take n, by simp; omega, by first | rfl | go_num, by first | rfl | trivial, HN⟩
        case measure => rw [sizeV_str, sizeV_str, List.length_take]; omega
      · have hxb : ((x.toNat : Int) == 95) = false := by
          rw [beq_eq_false_iff_ne]
          intro e
          exact hc ((toNat95 x).1 (by omega))
        obtain rfl : bs = t := by
          rw [← hx.out, ht, strip_other _ _ (by rw [hxx]; exact hc)]
        clear hx HBS ht hxx
        go_wp2
        go_ret
        exact ⟨rfl, rfl⟩
set_option maxRecDepth 4000 in
theorem trim_any (s : List UInt8) (hs : s.length ≤ 100000) (w : World) : Calls Tryd.prog 31 #[.string ⟨s.toArray⟩, .string ⟨([95] : List UInt8).toArray⟩] w fun e w' => e = .returned (.string ⟨(stripL s).toArray⟩) ∧ w' = w := by
  have HB := Lib.hid (trimByte_any s hs w)
  by_cases h0 : s = []
  · subst h0
    clear HB
    go_enter Tryd.func31, Tryd.ntmps31
    go_wp2
    go_ret
    exact ⟨rfl, rfl⟩
  · have hne : (s == []) = false := by rw [beq_eq_false_iff_ne]; exact h0
    have he : s.isEmpty = false := by cases s with | nil => exact absurd rfl h0 | cons => rfl
    generalize stripL s = bs at HB ⊢
    go_enter Tryd.func31, Tryd.ntmps31
    go_wp2_with (go_at_call 49; refine HB.out.mono ?_; rintro _ _ ⟨rfl, rfl⟩)
    go_ret
    exact ⟨rfl, rfl⟩
end Go.Proofs.YtlindlmcojmhcaaDoor
