/- Expressions in memory: what can be read of a tree; no program, no condition. -/
import Derived.Test.YtaoeipbofhkkcaaGreatDoorExb
import Derived.Test.YtaoeipbofhkkcaaGreatDoorNumOwn
import Derived.Deep.MidRow
namespace Go.Proofs.YtaoeipbofhkkcaaGreatDoor
open Go.RowKit

mutual
/-- an expression lies in the four cells from ⟨b, o⟩ on, its parts elsewhere -/
def CellsAt (W : World) : Ex → Nat → Nat → Prop
  | .mk op n name sub, b, o => W.cell? ⟨b, o, none⟩ = some (.string ⟨op.toArray⟩) ∧ W.cell? ⟨b, o + 1, none⟩ = some (.int .u16 (n : Nat)) ∧ n ≤ 65535 ∧ W.cell? ⟨b, o + 2, none⟩ = some (.string ⟨name.toArray⟩) ∧
    ∃ b' o' sp c, W.cell? ⟨b, o + 3, none⟩ = some (.slice sp sub.length c) ∧ (0 < sub.length → sp = some ⟨b', o', none⟩) ∧ ListAt W sub b' o'
def ListAt (W : World) : List Ex → Nat → Nat → Prop
  | [], _, _ => True
  | e :: l, b, o => CellsAt W e b o ∧ ListAt W l b (o + 4)
end
/-- an expression as a value -/
def ExV (W : World) (v : Value) : Ex → Prop
  | .mk op n name sub => n ≤ 65535 ∧ ∃ b o sp c, v = .agg #[.string ⟨op.toArray⟩, .int .u16 (n : Nat), .string ⟨name.toArray⟩, .slice sp sub.length c] ∧ (0 < sub.length → sp = some ⟨b, o, none⟩) ∧ ListAt W sub b o
mutual
theorem CellsAt.keep {W W' : World} (hk : ∀ p u, W.cell? p = some u → W'.cell? p = some u) : ∀ (e : Ex) (b o : Nat), CellsAt W e b o → CellsAt W' e b o
  | .mk op n name sub, b, o, h => by
    simp only [CellsAt] at h ⊢
    obtain ⟨h1, h2, h3, h4, b', o', sp, c, h5, h6, h7⟩ := h
    exact ⟨hk _ _ h1, hk _ _ h2, h3, hk _ _ h4, b', o', sp, c, hk _ _ h5, h6, ListAt.keep hk sub b' o' h7⟩
theorem ListAt.keep {W W' : World} (hk : ∀ p u, W.cell? p = some u → W'.cell? p = some u) : ∀ (l : List Ex) (b o : Nat), ListAt W l b o → ListAt W' l b o
  | [], _, _, _ => by simp only [ListAt]
  | e :: l, b, o, h => by
    simp only [ListAt] at h ⊢
    exact ⟨CellsAt.keep hk e b o h.1, ListAt.keep hk l b (o + 4) h.2⟩
end
theorem ExV.keep {W W' : World} (hk : ∀ p u, W.cell? p = some u → W'.cell? p = some u) {v : Value} : ∀ {e : Ex}, ExV W v e → ExV W' v e
  | .mk op n name sub, h => by
    obtain ⟨h0, b, o, sp, c, h1, h2, h3⟩ := h
    exact ⟨h0, b, o, sp, c, h1, h2, ListAt.keep hk sub b o h3⟩
theorem ExV.below {W W' : World} (hb : Below W.heap.size W W') {v : Value} {e : Ex} (h : ExV W v e) : ExV W' v e := ExV.keep (fun p _ hu => (hb.cell (World.block_lt_of_cell? W p hu)).trans hu) h
theorem ListAt.at {W : World} : ∀ (l : List Ex) (b o i : Nat) (e : Ex), ListAt W l b o → l[i]? = some e → CellsAt W e b (o + i * 4)
  | [], b, o, i, e, _, h => by simp at h
  | x :: l, b, o, 0, e, hl, h => by
    obtain rfl : x = e := by simpa using h
    simp only [ListAt] at hl
    simpa using hl.1
  | x :: l, b, o, i + 1, e, hl, h => by
    simp only [ListAt] at hl
    have := ListAt.at l b (o + 4) i e hl.2 (by simpa using h)
    rwa [show o + (i + 1) * 4 = o + 4 + i * 4 by omega]
theorem ListAt.of {W : World} : ∀ (l : List Ex) (b o : Nat), (∀ i e, l[i]? = some e → CellsAt W e b (o + i * 4)) → ListAt W l b o
  | [], _, _, _ => by simp only [ListAt]
  | x :: l, b, o, h => by
    simp only [ListAt]
    refine ⟨by simpa using h 0 x rfl, ListAt.of l b (o + 4) fun i e hi => ?_⟩
    have := h (i + 1) e (by simpa using hi)
    rwa [show o + (i + 1) * 4 = o + 4 + i * 4 by omega] at this
/-- what a cell that holds an expression yields when all four are read -/
theorem CellsAt.val {W : World} {e : Ex} {b o : Nat} (h : CellsAt W e b o) : ∃ v0 v1 v2 v3, W.cell? ⟨b, o, none⟩ = some v0 ∧ W.cell? ⟨b, o + 1, none⟩ = some v1 ∧ W.cell? ⟨b, o + 2, none⟩ = some v2 ∧ W.cell? ⟨b, o + 3, none⟩ = some v3 ∧ ExV W (.agg #[v0, v1, v2, v3]) e := by
  obtain ⟨op, n, name, sub⟩ := e
  simp only [CellsAt] at h
  obtain ⟨h1, h2, h3, h4, b', o', sp, c, h5, h6, h7⟩ := h
  exact ⟨_, _, _, _, h1, h2, h4, h5, h3, b', o', sp, c, rfl, h6, h7⟩
theorem ExV.cells {W : World} {v0 v1 v2 v3 : Value} {e : Ex} {b o : Nat} (h : ExV W (.agg #[v0, v1, v2, v3]) e) (h0 : W.cell? ⟨b, o, none⟩ = some v0) (h1 : W.cell? ⟨b, o + 1, none⟩ = some v1) (h2 : W.cell? ⟨b, o + 2, none⟩ = some v2) (h3 : W.cell? ⟨b, o + 3, none⟩ = some v3) : CellsAt W e b o := by
  obtain ⟨op, n, name, sub⟩ := e
  obtain ⟨hn, b', o', sp, c, hv, hsp, hl⟩ := h
  simp only [Value.agg.injEq, Array.mk.injEq, List.cons.injEq, and_true] at hv
  obtain ⟨rfl, rfl, rfl, rfl⟩ := hv
  simp only [CellsAt]
  exact ⟨h0, h1, hn, h2, b', o', sp, c, h3, hsp, hl⟩
instance : Inhabited Ex := ⟨.mk [] 0 [] []⟩
end Go.Proofs.YtaoeipbofhkkcaaGreatDoor
