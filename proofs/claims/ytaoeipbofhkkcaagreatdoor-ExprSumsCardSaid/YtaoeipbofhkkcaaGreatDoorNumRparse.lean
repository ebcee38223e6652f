/- What the document's Parse does when it is called: it answers the number of a text, or why there is none; a text is shorter than 140737488355328 bytes. -/
import Derived.Test.YtaoeipbofhkkcaaGreatDoorNumOwn
namespace Go.Proofs.YtaoeipbofhkkcaaGreatDoor
open Go.RowKit Go.Proofs.NumMath

theorem baseOf_up (n : Nat) : baseOf (upN n) = baseOf n := by
  unfold baseOf upN
  repeat' split
  all_goals omega
theorem digit_base (n : Nat) (h : dg n < 10) : baseOf n = 0 := by
  revert h
  unfold baseOf dg
  repeat' split
  all_goals omega
theorem lastN_up (l : List UInt8) : lastN (upL l) = upN (lastN l) := by
  unfold lastN upL
  rw [List.getLast?_map]
  cases l.getLast? with
  | none => rfl
  | some c => exact up_toNat c
theorem baseL_of (l : List UInt8) : baseOf (upN (lastN l)) = baseOf (lastN l) := baseOf_up _
/-- where the first byte is no digit there is no number -/
theorem parse_no (l : List UInt8) (h : 10 ≤ dg (headN l)) : parseL l = (0, 2) := by
  refine parse_syn l ?_
  unfold digsL
  split
  · exact h
  · cases l with
    | nil => exact h
    | cons c t =>
      cases t with
      | nil => simp [headN, dg]
      | cons d t => exact h
/-- where it is one, the digits begin with it -/
theorem head_digs (l : List UInt8) (h : dg (headN l) < 10) : headN (digsL l) = headN l := by
  unfold digsL
  split
  · rfl
  · rename_i hb
    cases l with
    | nil => rfl
    | cons c t =>
      cases t with
      | nil =>
        exfalso
        apply hb
        show baseOf c.toNat = 0
        have h' : dg c.toNat < 10 := h
        exact digit_base _ h'
      | cons d t => rfl
theorem head_up (l : List UInt8) : headN (upL l) = upN (headN l) := by
  cases l with
  | nil => rfl
  | cons c t => exact up_toNat c
theorem dg_up_iff (n : Nat) : dg n < 10 ↔ 48 ≤ upN n ∧ upN n ≤ 57 := by
  unfold dg upN
  repeat' split
  all_goals omega
theorem upB_at (D d : ByteArray) (h : D.data.toList = d.data.toList.map up) (k : Nat) (hk : k < d.size) (hk2 : k < D.size) : (D[k]'hk2).toNat = upN (d[k]'hk).toNat := by
  have e : D.data.toList[k]? = (d.data.toList.map up)[k]? := by rw [h]
  have h1 : D.data.toList[k]? = some (D[k]'hk2) := by rw [List.getElem?_eq_getElem (by rw [data_size]; exact hk2)]; rfl
  have h2 : d.data.toList[k]? = some (d[k]'hk) := by rw [List.getElem?_eq_getElem (by rw [data_size]; exact hk)]; rfl
  rw [List.getElem?_map, h1, h2] at e
  have := Option.some.inj e
  rw [this, up_toNat]
end Go.Proofs.YtaoeipbofhkkcaaGreatDoor
