/- What an image is in memory, and what New, has, fits and mark do when they are called. -/
import Derived.Test.YtjodidkjpdjmoaaDoorZero
import Derived.Test.YtjodidkjpdjmoaaDoorMath
import Derived.WalkKit
import Derived.WalkSpells
import Derived.WalkLawsBesides
import Derived.Handy
import Derived.Deep.QuietTactic
import Derived.BigQuiet
import Derived.BigRegion
import Derived.LoopN
import Derived.Deep.MidRow
import Derived.Laws.Bits64b
namespace Go.Proofs.YtjodidkjpdjmoaaDoor
open Go.RowKit

/-- The words of block b are M, a bit for each address that m says. -/
structure Mk (W : World) (b : Nat) (m : Nat → Bool) (M : Nat → Nat) : Prop where
  marks : ∀ k, k < 1024 → W.cell? ⟨b, k, none⟩ = some (.int .u64 (M k))
  free : ∀ o, W.frozen? ⟨b, o, none⟩ = false
  bits : ∀ k, k < 1024 → ∀ i, (M k).testBit i = (decide (i < 64) && m (64 * k + i))
theorem Mk.lt64 {W : World} {b : Nat} {m : Nat → Bool} {M : Nat → Nat} (h : Mk W b m M) (k : Nat) (hk : k < 1024) : M k < 18446744073709551616 := by
  have := Nat.lt_pow_two_of_testBit (M k) (n := 64) (fun i hi => by rw [h.bits k hk i]; simp; omega)
  omega
theorem Mk.congr {W : World} {b : Nat} {m m' : Nat → Bool} {M : Nat → Nat} (h : Mk W b m M) (e : ∀ a, a < 65536 → m a = m' a) : Mk W b m' M :=
  ⟨h.marks, h.free, fun k hk i => by
    rw [h.bits k hk i]
    by_cases hi : i < 64
    · rw [e _ (by omega)]
    · simp [hi]⟩
/-- The bytes of block b are V. -/
def Vs (W : World) (b : Nat) (V : Nat → Int) : Prop := ∀ a, a < 65536 → W.cell? ⟨b, 1024 + a, none⟩ = some (.int .u8 (V a))
/-- Block b holds the image g. -/
structure Img (W : World) (b : Nat) (g : Nat → Option Int) (M : Nat → Nat) : Prop where
  mks : Mk W b (fun a => (g a).isSome) M
  vals : Vs W b (fun a => (g a).getD 0)

theorem bit_of_word (M j : Nat) (hM : M < 18446744073709551616) : (bits BinOp.and IntKind.u64 ((M : Int) / 2 ^ j) 1 == 1) = M.testBit j := by
  have e1 : (M : Int) / 2 ^ j = ((M / 2 ^ j : Nat) : Int) := by simp
  have e2 : M / 2 ^ j < 18446744073709551616 := Nat.lt_of_le_of_lt (Nat.div_le_self _ _) hM
  have e3 : bits BinOp.and IntKind.u64 ((M / 2 ^ j : Nat) : Int) ((1 : Nat) : Int) = ((M / 2 ^ j &&& 1 : Nat) : Int) := bits_and_u64_nat _ _ e2 (by omega)
  rw [e1, show (1 : Int) = ((1 : Nat) : Int) from rfl, e3, Nat.testBit_eq_decide_div_mod_eq, Nat.and_one_is_mod]
  have := Nat.mod_two_eq_zero_or_one (M / 2 ^ j)
  rcases this with h | h <;> rw [h] <;> rfl

noncomputable def bigZ : List Value := Classical.choose t63_cells
theorem bigZ_zero : Tryd.t63.zero = some (.agg bigZ.toArray) := (Classical.choose_spec t63_cells).1
theorem bigZ_is : IsZeros 0 66560 bigZ := (Classical.choose_spec t63_cells).2
theorem zero63 (w : World) : (zeroValue 63).run Tryd.prog w = .ok (.agg bigZ.toArray) w := by
  unfold zeroValue
  rw [Sem.run_bind, Tryd.typeInfo63]
  simp only [Result.andThen, bigZ_zero, Sem.run_pure]

set_option maxHeartbeats 1000000 in
theorem new_any (w : World) : Calls Tryd.prog 21 #[] w fun e w' => e = .returned (.pointer (some ⟨w.heap.size, 0, none⟩)) ∧ w' = w.alloc (.cells bigZ.toArray 63) := by
  have hz := zero63
  go_enter Tryd.func21, Tryd.ntmps21
  go_wp2
  go_ret
  exact ⟨rfl, rfl⟩

set_option maxHeartbeats 1000000 in
theorem has_any (b a : Nat) (ha : a < 65536) (m : Nat → Bool) (M : Nat → Nat) (w : World) (hI : Mk w b m M) : Calls Tryd.prog 26 #[.pointer (some ⟨b, 0, none⟩), .int .u16 a] w fun e w' => e = .returned (.bool (m a)) ∧ w' = w := by
  have hc := hI.marks (a / 64) (by omega)
  go_enter Tryd.func26, Tryd.ntmps26
  go_wp2
  go_ret
  refine ⟨?_, rfl⟩
  rw [bit_of_word _ _ (hI.lt64 _ (by omega)), hI.bits _ (by omega)]
  have e1 : 64 * (a / 64) + a % 64 = a := by omega
  have e2 : a % 64 < 64 := by omega
  rw [e1, decide_eq_true e2, Bool.true_and]
  rfl

theorem grown_set {w W : World} {b : Nat} (h : w.grownBy W (some b)) (o : Nat) (v : Value) : w.grownBy (W.setCell ⟨b, o, none⟩ v) (some b) :=
  ⟨h.os, h.tape, h.output, by simp; exact h.size, fun k hk hne => by
    rw [Below.heap_setCell W ⟨b, o, none⟩ v k (fun e => hne (by rw [e]))]; exact h.block k hk hne⟩
theorem grown_drew {w W : World} {row : Option Nat} (h : w.grownBy W row) : w.grownBy W.drew row := ⟨h.os, h.tape, h.output, h.size, h.block⟩
theorem grown_trans {w W V : World} {row : Option Nat} (h : w.grownBy W row) (k : W.grownBy V row) : w.grownBy V row :=
  ⟨k.os.trans h.os, k.tape.trans h.tape, k.output.trans h.output, Nat.le_trans h.size k.size, fun i hi hne => (k.block i (Nat.lt_of_lt_of_le hi h.size) hne).trans (h.block i hi hne)⟩

theorem mark_step {W : World} {b : Nat} {m : Nat → Bool} {M : Nat → Nat} (h : Mk W b m M) (i : Nat) (hi : i < 65536) :
    ∃ M', Mk (W.setCell ⟨b, i / 64, none⟩ (.int .u64 (bits BinOp.or IntKind.u64 (M (i / 64) : Nat) (IntKind.u64.wrap (2 ^ (i % 64)))))).drew b (fun a => m a || decide (a = i)) M' := by
  have hp : 2 ^ (i % 64) < 18446744073709551616 := by
    have : 2 ^ (i % 64) < 2 ^ 64 := Nat.pow_lt_pow_right (by omega) (by omega)
    omega
  have e1 : IntKind.u64.wrap (2 ^ (i % 64)) = ((2 ^ (i % 64) : Nat) : Int) := by
    rw [IntKind.wrap_u64]
    have e : ((2 : Int) ^ (i % 64)) = ((2 ^ (i % 64) : Nat) : Int) := by simp
    rw [e]
    generalize 2 ^ (i % 64) = q at hp
    omega
  rw [e1, bits_or_u64_nat _ _ (h.lt64 _ (by omega)) hp]
  refine ⟨fun k => if k = i / 64 then M k ||| 2 ^ (i % 64) else M k, ?_, ?_, ?_⟩
  · intro k hk
    show (W.setCell _ _).cell? _ = _
    by_cases e : k = i / 64
    · subst e
      rw [World.cell?_setCell_same _ _ _ (h.marks _ hk), if_pos rfl]
    · rw [World.cell?_setCell_other _ _ _ _ (by intro hh; injection hh with _ h2; exact e h2.symm), h.marks k hk, if_neg e]
  · intro o
    show (W.setCell _ _).frozen? _ = _
    rw [World.frozen?_setCell]; exact h.free o
  · intro k hk j
    by_cases e : k = i / 64
    · subst e
      rw [if_pos rfl, Nat.testBit_or, Nat.testBit_two_pow, h.bits _ hk]
      by_cases hj : j < 64
      · by_cases e2 : i % 64 = j
        · have : 64 * (i / 64) + j = i := by omega
          simp [hj, e2, this]
        · have : ¬ 64 * (i / 64) + j = i := by omega
          simp [hj, e2, this]
      · have : ¬ i % 64 = j := by omega
        simp [hj, this]
    · rw [if_neg e, h.bits _ hk]
      by_cases hj : j < 64
      · have : ¬ 64 * k + j = i := by omega
        simp [hj, this]
      · simp [hj]

set_option maxHeartbeats 1000000 in
theorem mark_any (b at_ n : Nat) (ha : at_ + n ≤ 65536) (m : Nat → Bool) (M : Nat → Nat) (w : World) (hI : Mk w b m M) :
    Calls Tryd.prog 30 #[.pointer (some ⟨b, 0, none⟩), .int .i64 at_, .int .i64 n] w fun e w' => e = .returned (.tuple #[]) ∧ (∃ M', Mk w' b (fun a => m a || decide (at_ ≤ a ∧ a < at_ + n)) M') ∧ w.grownBy w' (some b) ∧ ∀ o, 1024 ≤ o → w'.cell? ⟨b, o, none⟩ = w.cell? ⟨b, o, none⟩ := by
  go_enter Tryd.func30, Tryd.ntmps30
  go_wp2
  go_loopw [6] (fun i wr => ∃ k : Nat, k ≤ n ∧ i = .int .i64 ((at_ + k : Nat) : Int) ∧ (∃ M', Mk wr b (fun a => m a || decide (at_ ≤ a ∧ a < at_ + k)) M') ∧ w.grownBy wr (some b) ∧ ∀ o, 1024 ≤ o → wr.cell? ⟨b, o, none⟩ = w.cell? ⟨b, o, none⟩)
    (fun i _ => at_ + n - (intOf i).toNat)
  case atStart =>
    exact ⟨0, Nat.zero_le _, rfl, ⟨M, hI.congr (fun a _ => by simp; omega)⟩, World.grownBy.refl _ _, fun _ _ => rfl⟩
  case round =>
    obtain ⟨k, hk, rfl, ⟨M', hM⟩, hg, ho⟩ := hrel
    by_cases hlt : k < n
    · have hc := hM.marks ((at_ + k) / 64) (by omega)
      have hf := hM.free ((at_ + k) / 64)
      go_wp2
      go_region
      all_goals go_wp2
      go_roundw
      case rel =>
        refine ⟨k + 1, by omega, by go_num, ?_, grown_drew (grown_set hg _ _), fun o h => ?_⟩
        · obtain ⟨M2, h2⟩ := mark_step hM (at_ + k) (by omega)
          refine ⟨M2, h2.congr (fun a _ => ?_)⟩
          by_cases e : a = at_ + k
          · subst e; simp
          · have : (at_ ≤ a ∧ a < at_ + (k + 1)) ↔ (at_ ≤ a ∧ a < at_ + k) := by omega
            simp [e, this]
        · show (wr.setCell _ _).cell? _ = _
          rw [World.cell?_setCell_other _ _ _ _ (by intro hh; injection hh with _ h2; omega)]; exact ho o h
      case measure => simp [intOf]; omega
    · obtain rfl : k = n := by omega
      go_wp2
      go_end0
      exact ⟨rfl, ⟨M', hM⟩, hg, ho⟩
end Go.Proofs.YtjodidkjpdjmoaaDoor
