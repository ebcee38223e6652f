/- the law's own two19: Eval at a pair of numbers; where the library's tables are laid. -/
import Derived.Test.YtaoeipbofhkkcaaGreatDoorPrOf
namespace Go.Proofs.YtaoeipbofhkkcaaGreatDoor
open Go.RowKit Go.Proofs.NumMath

abbrev pairO (a b : Nat) : Obj := Obj.cells #[.string ⟨#[35]⟩, .int .u16 (a : Nat), .string ⟨#[]⟩, .slice none 0 0, .string ⟨#[35]⟩, .int .u16 (b : Nat), .string ⟨#[]⟩, .slice none 0 0] 25
theorem pair_ex (w : World) (op : O2) (a b : Nat) (ha : a ≤ 65535) (hb : b ≤ 65535) (W : World) (hW : W.heap[w.heap.size]? = some (pairO a b)) : ExV W (.agg #[.string ⟨(txt2 op).toArray⟩, .int .u16 0, .string ⟨#[]⟩, .slice (some ⟨w.heap.size, 0, none⟩) 2 2]) (toEx (.bin op (.num a) (.num b))) := by
  refine ⟨by omega, w.heap.size, 0, some ⟨w.heap.size, 0, none⟩, 2, rfl, fun _ => rfl, ?_⟩
  simp only [toEx, ListAt, CellsAt, and_true, World.cell?, hW]
  refine ⟨⟨rfl, rfl, ha, rfl, 0, 0, none, 0, rfl, fun h => absurd h (by simp)⟩, rfl, rfl, hb, rfl, 0, 0, none, 0, rfl, fun h => absurd h (by simp)⟩
theorem bin_ok (op : O2) (a b : Nat) (ha : a ≤ 65535) (hb : b ≤ 65535) : okR (.bin op (.num a) (.num b)) = true := by simp [okR, ha, hb]
theorem bin_short (op : O2) (a b : Nat) : shortX (toEx (.bin op (.num a) (.num b))) = true := by cases op <;> simp [toEx, shortX, shortS, txt2]
set_option maxHeartbeats 4000000 in
theorem two19_any (op : O2) (a b : Nat) (ha : a ≤ 65535) (hb : b ≤ 65535) (w : World) : Calls Tryz.prog 19 #[.string ⟨(txt2 op).toArray⟩, .int .u16 (a : Nat), .int .u16 (b : Nat)] w fun x w' =>
    x = .returned (.tuple #[.int .u16 ((two16 op a b).1 : Nat), .int .i64 ((two16 op a b).2 : Nat)]) ∧ Below w.heap.size w w' := by
  have hbx := box_below w (pairO a b)
  have hE : ∀ v, ExV (w.alloc (pairO a b)) v (toEx (.bin op (.num a) (.num b))) → Calls Tryz.prog 10 #[v, .int .u16 0, .nilFunc] (w.alloc (pairO a b)) fun x w' =>
      x = .returned (.tuple #[.int .u16 ((two16 op a b).1 : Nat), .int .i64 ((two16 op a b).2 : Nat)]) ∧ Below (w.alloc (pairO a b)).heap.size (w.alloc (pairO a b)) w' := fun v hv =>
    pEval_any 0 (by omega) (fun _ => (0, 3)) (fun _ => Nat.zero_le _) .nilFunc v _ (two16 op a b) _ (bin_short op a b) hv (.inl rfl) (askAt_nil _) (.inr ⟨_, rfl, bin_ok op a b ha hb, toEx_right _ 1 (bin_ok op a b ha hb) (by simp [deepR]), by simp [evalR]⟩)
  have HE := Lib.hid (hE _ (pair_ex w op a b ha hb _ (heap_alloc_new w (pairO a b))))
  obtain ⟨T, hT⟩ : ∃ T, txt2 op = T := ⟨_, rfl⟩
  obtain ⟨x, hx⟩ : ∃ x, two16 op a b = x := ⟨_, rfl⟩
  rw [hT, hx] at HE
  rw [hT, hx]
  have HB := Lib.hid hbx
  clear hbx hE hT hx
  go_enter Tryz.func19, Tryz.ntmps19
  go_wp2_with (go_at_call 10; refine HE.out.mono ?_; rintro _ w2 ⟨rfl, hB2⟩)
  go_ret2
  exact ⟨rfl, HB.out.trans (hB2.mono HB.out.size)⟩
theorem kdiv (a b : Nat) (hb : b ≠ 0) : two16 .div a b = (a / b, 0) := by simp [two16, hb]
theorem kmod (a b : Nat) (hb : b ≠ 0) : two16 .mod a b = (a % b, 0) := by simp [two16, hb]
end Go.Proofs.YtaoeipbofhkkcaaGreatDoor
