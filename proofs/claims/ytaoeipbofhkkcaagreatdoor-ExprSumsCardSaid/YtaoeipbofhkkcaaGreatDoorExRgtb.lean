/- What the document's Right of expressions does when it is called: right by induction over the tree. -/
import Derived.Test.YtaoeipbofhkkcaaGreatDoorExRgt
namespace Go.Proofs.YtaoeipbofhkkcaaGreatDoor
open Go.RowKit Go.Proofs.NumMath

theorem right_ind : ∀ (N : Nat) (e : Ex), SizeOf.sizeOf e ≤ N → ∀ (d : Nat) (v : Value) (w : World), shortX e = true → d ≤ 25 → ExV w v e →
    Calls Tryz.prog 38 #[v, .int .i64 d] w fun r w' => r = .returned (.bool (rightX d e)) ∧ Below w.heap.size w w'
  | 0, .mk op n name sub, h, _, _, _, _, _, _ => by simp at h
  | N + 1, .mk op n name sub, h, d, v, w, hs, hd, hv => by
    refine right_step op n name sub d v w hs hd hv fun e v w he hev hd' => ?_
    have h1 : SizeOf.sizeOf e ≤ N := by
      have := List.sizeOf_lt_of_mem he
      simp at h
      omega
    have h2 : shortX e = true := by
      simp only [shortX, Bool.and_eq_true] at hs
      exact shortS_mem hs.2 he
    have := right_ind N e h1 (d + 1) v w h2 hd' hev
    simpa using this
def rightK (e : Ex) : Nat := if rightX 1 e = true then 0 else 2
theorem cells_box {W : World} {k : Nat} {u0 u1 u2 u3 : Value} {t : TypeId} {fr : Nat × Nat} (h : W.heap[k]? = some (.cells #[u0, u1, u2, u3] t fr)) :
    W.cell? ⟨k, 0, none⟩ = some u0 ∧ W.cell? ⟨k, 1, none⟩ = some u1 ∧ W.cell? ⟨k, 2, none⟩ = some u2 ∧ W.cell? ⟨k, 3, none⟩ = some u3 := by simp [World.cell?, h]
theorem Right_any (v : Value) (e : Ex) (w : World) (hs : shortX e = true) (hv : ExV w v e) : Calls Tryz.prog 28 #[v] w fun r w' => r = .returned (.int .i64 (rightK e : Nat)) ∧ Below w.heap.size w w' := by
  have hi := fun v w hv => right_ind (SizeOf.sizeOf e) e (Nat.le_refl _) 1 v w hs (by omega) hv
  obtain ⟨op, n, name, sub⟩ := e
  have hv' := hv
  obtain ⟨hn, b, o, sp, c, rfl, hsp, hl⟩ := hv
  obtain ⟨X, hX⟩ : ∃ X, rightX 1 (.mk op n name sub) = X := ⟨_, rfl⟩
  rw [hX] at hi
  have hk : rightK (.mk op n name sub) = if X = true then 0 else 2 := by unfold rightK; rw [hX]
  rw [hk]
  have hB0 := box_below w (Obj.cells #[Value.string ⟨op.toArray⟩, Value.int .u16 n, Value.string ⟨name.toArray⟩, Value.slice sp sub.length c] 25)
  have hc := hi _ (w.alloc (Obj.cells #[Value.string ⟨op.toArray⟩, Value.int .u16 n, Value.string ⟨name.toArray⟩, Value.slice sp sub.length c] 25)) (hv'.below hB0)
  have HB := Lib.hid hB0
  clear hi hX hk hv' hl hsp hB0
  cases X
  all_goals
    go_enter Tryz.func28, Tryz.ntmps28
    go_wp2_with (go_at_call 38; refine hc.mono ?_; rintro e w2 ⟨rfl, hB⟩)
    go_ret
    exact ⟨rfl, HB.out.trans (hB.mono HB.out.size)⟩
end Go.Proofs.YtaoeipbofhkkcaaGreatDoor
