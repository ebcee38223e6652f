/- What the document's Unquote does when it is called; a text is shorter than 17592186044416 bytes. -/
import Derived.Test.YtaoeipbofhkkcaaGreatDoorNumQuotes
namespace Go.Proofs.YtaoeipbofhkkcaaGreatDoor
open Go.RowKit Go.Proofs.NumMath

theorem unq_step (c : UInt8) (t : List UInt8) (h : c ≠ 39) (ho : ok c = true) : unqIn (c :: t) = (unqIn t).map (c :: ·) := by
  cases t with
  | nil =>
    have e : unqIn [c] = if c = 39 ∨ ok c = false then none else some [c] := by rw [unqIn]
    rw [e, if_neg (by simp [h, ho])]
    rfl
  | cons d l => rw [unqIn, if_neg (by simp [ho]), if_neg h]
theorem unq_bad (c : UInt8) (t : List UInt8) (ho : ok c = false) : unqIn (c :: t) = none := by
  cases t with
  | nil => rw [unqIn, if_pos (.inr ho)]
  | cons d l => rw [unqIn, if_pos ho]
theorem unq_two (t : List UInt8) : unqIn (39 :: 39 :: t) = (unqIn t).map (39 :: ·) := by
  rw [unqIn, if_neg (by simp [ok39]), if_pos rfl, if_pos rfl]
theorem unq_alone (t : List UInt8) (h : ∀ u, t ≠ 39 :: u) : unqIn (39 :: t) = none := by
  cases t with
  | nil => rw [unqIn, if_pos (.inl rfl)]
  | cons d l => rw [unqIn, if_neg (by simp [ok39]), if_pos rfl, if_neg (fun e => h l (by rw [e]))]
theorem map_map_app (U : Option (List UInt8)) (acc : List UInt8) (c : UInt8) : (U.map (c :: ·)).map (acc ++ ·) = U.map ((acc ++ [c]) ++ ·) := by
  cases U <;> simp
theorem own_empty (w : World) (B : Nat) : w.ownsRow B 5 1 (.slice none 0 0) 0 (bys []) := World.ownsRow_nil _ _ _ _
theorem last_at (s : ByteArray) (h : 2 ≤ s.size) : lastN s.data.toList = (s[s.size - 1]'(by omega)).toNat := lastN_at s (by omega)
theorem inner_data (s : ByteArray) : (s.extract 1 (s.size - 1)).data.toList = (s.data.toList.drop 1).dropLast := by
  simp only [ByteArray.data_extract, Array.toList_extract, List.extract_eq_take_drop]
  rw [List.dropLast_eq_take, List.length_drop, data_size]
end Go.Proofs.YtaoeipbofhkkcaaGreatDoor
