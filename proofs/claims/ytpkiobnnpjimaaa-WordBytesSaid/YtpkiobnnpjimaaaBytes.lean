/- What Psw and Of do when they are called, of both packages, said of values and of the world; a byte is between 0 and 255. -/
import Derived.Test.YtpkiobnnpjimaaaForms
import Derived.Lib.Hide
namespace Go.Proofs.Ytpkiobnnpjimaaa
open Go.RowKit Go.Proofs.WordMath

set_option maxHeartbeats 1000000 in
theorem of_any (b : Int) (b0 : 0 ≤ b) (b1 : b ≤ 255) (w : World) : Calls Try.prog 16 #[.int .u8 b] w fun e w' => e = .returned (.agg #[.bool (b / 128 % 2 == 1), .bool (b / 64 % 2 == 1), .bool (b / 16 % 2 == 1), .bool (b / 4 % 2 == 1), .bool (b % 2 == 1)]) ∧ Below w.heap.size w w' := by
  have q1 := and1 (b / 128) (by omega) (by omega)
  have q2 := and1 (b / 64) (by omega) (by omega)
  have q3 := and1 (b / 16) (by omega) (by omega)
  have q4 := and1 (b / 4) (by omega) (by omega)
  have q5 := and1 b b0 b1
  go_enter Try.func16, Try.ntmps16
  go_wp2
  go_returns
  exact ⟨rfl, by go_grown⟩
set_option maxHeartbeats 1000000 in
theorem rof_any (b : Int) (b0 : 0 ≤ b) (b1 : b ≤ 255) (w : World) : Calls Try.prog 17 #[.int .u8 b] w fun e w' => e = .returned (.agg #[.bool (b / 128 % 2 == 1), .bool (b / 64 % 2 == 1), .bool (b / 16 % 2 == 1), .bool (b / 4 % 2 == 1), .bool (b % 2 == 1)]) ∧ Below w.heap.size w w' := by
  have q1 : decide (128 ≤ b) = (b / 128 % 2 == 1) := by rw [Bool.eq_iff_iff]; simp; omega
  go_enter Try.func17, Try.ntmps17
  go_wp2
  go_returns
  exact ⟨rfl, by go_grown⟩

theorem or_s : bits .or .u8 2 128 = 2 + 128 := by decide +kernel
theorem or_z : ∀ s : Bool, bits .or .u8 (2 + bi s 128) 64 = 2 + bi s 128 + 64 := by decide +kernel
theorem or_h : ∀ s z : Bool, bits .or .u8 (2 + bi s 128 + bi z 64) 16 = 2 + bi s 128 + bi z 64 + 16 := by decide +kernel
theorem or_p : ∀ s z h : Bool, bits .or .u8 (2 + bi s 128 + bi z 64 + bi h 16) 4 = 2 + bi s 128 + bi z 64 + bi h 16 + 4 := by decide +kernel
theorem or_c : ∀ s z h p : Bool, bits .or .u8 (2 + bi s 128 + bi z 64 + bi h 16 + bi p 4) 1 = 2 + bi s 128 + bi z 64 + bi h 16 + bi p 4 + 1 := by decide +kernel
/-- The flags as a byte. -/
def pswV (s z h p c : Bool) : Int := 2 + bi s 128 + bi z 64 + bi h 16 + bi p 4 + bi c 1
theorem pswV_bd : ∀ s z h p c : Bool, 0 ≤ pswV s z h p c ∧ pswV s z h p c ≤ 255 := by decide +kernel
theorem pswV_ref : ∀ s z h p c : Bool, bi s 128 + bi z 64 + bi h 16 + bi p 4 + 2 + bi c 1 = pswV s z h p c := by decide +kernel

/-- Block k holds the byte u; all else is as it was. -/
def Stored (k : Nat) (u : Int) (w w' : World) : Prop :=
  (∀ i, i ≠ k → w'.heap[i]? = w.heap[i]?) ∧ w'.heap[k]? = some (.cells #[.int .u8 u] 5 (0, 0)) ∧ w'.os = w.os ∧ w'.tape = w.tape ∧ w'.output = w.output ∧ w'.heap.size = w.heap.size
theorem Stored.self {k : Nat} {u : Int} {w : World} (h : w.heap[k]? = some (.cells #[.int .u8 u] 5 (0, 0))) : Stored k u w w := ⟨fun _ _ => rfl, h, rfl, rfl, rfl, rfl⟩
theorem Stored.put {k : Nat} {v u : Int} {w : World} (h : w.heap[k]? = some (.cells #[.int .u8 v] 5 (0, 0))) : Stored k u w ((w.setCell ⟨k, 0, none⟩ (.int .u8 u)).drew) :=
  ⟨fun i hi => by
    show (w.setCell ⟨k, 0, none⟩ (.int .u8 u)).heap[i]? = _
    simp [World.setCell, Array.getElem?_modify, Ne.symm hi], set_at h 0 _, rfl, rfl, rfl, by show (w.setCell ⟨k, 0, none⟩ (.int .u8 u)).heap.size = _; simp [World.setCell]⟩
theorem Stored.below {k : Nat} {u : Int} {w w1 w2 : World} (hs : Stored k u w1 w2) (hb : Below w.heap.size w w1) (hk : w.heap.size ≤ k) : Below w.heap.size w w2 :=
  ⟨hs.2.2.1.trans hb.os, hs.2.2.2.1.trans hb.tape, hs.2.2.2.2.1.trans hb.output, by rw [hs.2.2.2.2.2]; exact hb.size, fun i hi => (hs.1 i (by omega)).trans (hb.block i hi)⟩
theorem cell_one {w : World} {k : Nat} {v : Value} {t : TypeId} (h : w.heap[k]? = some (.cells #[v] t (0, 0))) : w.cell? ⟨k, 0, none⟩ = some v ∧ w.frozen? ⟨k, 0, none⟩ = false := by
  simp [World.cell?, World.frozen?, h]

set_option maxHeartbeats 1000000 in
theorem set_any (pl pw v : Int) (k : Nat) (on : Bool) (hpl : pl = 7 ∧ pw = 128 ∨ pl = 6 ∧ pw = 64 ∨ pl = 4 ∧ pw = 16 ∨ pl = 2 ∧ pw = 4 ∨ pl = 0 ∧ pw = 1) (hor : bits .or .u8 v pw = v + pw) (w : World)
    (hb : w.heap[k]? = some (.cells #[.int .u8 v] 5 (0, 0))) :
    Calls Try.prog 42 #[.int .i64 pl, .bool on, .pointer (some ⟨k, 0, none⟩)] w fun e w' => e = .returned (.tuple #[]) ∧ Stored k (v + bi on pw) w w' := by
  obtain ⟨hc, hf⟩ := cell_one hb
  cases on
  · have e0 : v + bi false pw = v := by simp [bi]
    rw [e0]
    rcases hpl with ⟨rfl, rfl⟩ | ⟨rfl, rfl⟩ | ⟨rfl, rfl⟩ | ⟨rfl, rfl⟩ | ⟨rfl, rfl⟩
    all_goals
      go_enter Try.func42, Try.ntmps42
      go_wp2
      go_end0
      exact ⟨rfl, Stored.self hb⟩
  · have e0 : v + bi true pw = v + pw := by simp [bi]
    rw [e0]
    rcases hpl with ⟨rfl, rfl⟩ | ⟨rfl, rfl⟩ | ⟨rfl, rfl⟩ | ⟨rfl, rfl⟩ | ⟨rfl, rfl⟩
    all_goals
      go_enter Try.func42, Try.ntmps42
      go_wp2
      go_region
      go_step
      go_end0
      exact ⟨rfl, Stored.put hb⟩

end Go.Proofs.Ytpkiobnnpjimaaa
