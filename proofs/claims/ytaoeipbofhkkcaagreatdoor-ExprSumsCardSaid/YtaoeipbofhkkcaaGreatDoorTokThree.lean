/- A block of three cells in memory, kept over calls and stores; the end of a function whose first result is a token; no condition. -/
import Derived.Test.YtaoeipbofhkkcaaGreatDoorTokHeads
import Derived.OneCell
namespace Go.Proofs.YtaoeipbofhkkcaaGreatDoor
open Go.RowKit Go.Proofs.NumMath

/-- A block of three cells, known whole: each cell of it, and that none is frozen. -/
theorem three {w : World} {k : Nat} {v0 v1 v2 : Value} {t : TypeId} (h : w.heap[k]? = some (.cells #[v0, v1, v2] t (0, 0))) :
    (w.cell? ⟨k, 0, none⟩ = some v0 ∧ w.cell? ⟨k, 1, none⟩ = some v1 ∧ w.cell? ⟨k, 2, none⟩ = some v2) ∧
    (w.frozen? ⟨k, 0, none⟩ = false ∧ w.frozen? ⟨k, 1, none⟩ = false ∧ w.frozen? ⟨k, 2, none⟩ = false) := by
  simp [World.cell?, World.frozen?, h]
theorem at_new (w : World) (o : Obj) : (w.alloc o).heap[w.heap.size]? = some o := heap_alloc_new w o
theorem at_old {w : World} {o o' : Obj} {k : Nat} (h : w.heap[k]? = some o') : (w.alloc o).heap[k]? = some o' := by
  have hk : k < w.heap.size := lt_of_block h
  rw [Below.heap_alloc w o k hk, h]
theorem at_below {w w1 : World} {o' : Obj} {k : Nat} (hb : Below w.heap.size w w1) (h : w.heap[k]? = some o') : w1.heap[k]? = some o' := (hb.block k (lt_of_block h)).trans h
theorem set_at {w : World} {k : Nat} {c : Array Value} {t : TypeId} {fr : Nat × Nat} (h : w.heap[k]? = some (.cells c t fr)) (i : Nat) (v : Value) : (w.setCell ⟨k, i, none⟩ v).heap[k]? = some (.cells (c.setIfInBounds i v) t fr) := by
  have hk := lt_of_block h
  simp [World.setCell, Array.getElem?_modify, h]
theorem set3 {w : World} {k : Nat} {t : TypeId} {u0 u1 u2 v0 v1 v2 : Value} (h : w.heap[k]? = some (.cells #[u0, u1, u2] t (0, 0))) :
    (((w.setCell ⟨k, 0, none⟩ v0).setCell ⟨k, 1, none⟩ v1).setCell ⟨k, 2, none⟩ v2).heap[k]? = some (.cells #[v0, v1, v2] t (0, 0)) :=
  set_at (set_at (set_at h 0 v0) 1 v1) 2 v2
theorem below_set3 {w W : World} {v0 v1 v2 : Value} (h : Below w.heap.size w W) : Below w.heap.size w (((W.setCell ⟨w.heap.size, 0, none⟩ v0).setCell ⟨w.heap.size, 1, none⟩ v1).setCell ⟨w.heap.size, 2, none⟩ v2) :=
  ((h.setCell (p := ⟨w.heap.size, 0, none⟩) (Nat.le_refl _) _).setCell (p := ⟨w.heap.size, 1, none⟩) (Nat.le_refl _) _).setCell (p := ⟨w.heap.size, 2, none⟩) (Nat.le_refl _) _
theorem below_new {w w1 : World} (o : Obj) (hb : Below (w.alloc o).heap.size (w.alloc o) w1) : Below w.heap.size w w1 :=
  ((Below.refl w.heap.size w).alloc (Nat.le_refl _) o).trans (hb.mono (by simp))
theorem below_step {w W w1 : World} (h : Below w.heap.size w W) (hb : Below W.heap.size W w1) : Below w.heap.size w w1 := h.trans (hb.mono h.size)

theorem res42 {fn : Func} {p q r k : Nat} {x y v0 v1 v2 : Value} {tmps : Array Value} {W : World} (h : fn.results = #[.cell p 68, .tmp q, .tmp r]) (hp : tmps.getD p undef = .pointer (some ⟨k, 0, none⟩)) (hq : tmps.getD q undef = x) (hr : tmps.getD r undef = y)
    (k0 : W.cell? ⟨k, 0, none⟩ = some v0) (k1 : W.cell? ⟨k, 1, none⟩ = some v1) (k2 : W.cell? ⟨k, 2, none⟩ = some v2) :
    (results fn tmps).run Tryz.prog W = .ok (.tuple #[.agg #[v0, v1, v2], x, y]) W := by
  simp only [Array.getD_eq_getD_getElem?] at hr hp hq
  simp only [results, h]
  simp [hr, hp, hq, go_sem, k0, k1, k2]
theorem fin42 {fn : Func} {R : Ending → World → Prop} {p q r k : Nat} {t : TypeId} {x y v0 v1 v2 : Value} {a : Act} {W : World} (h : fn.results = #[.cell p 68, .tmp q, .tmp r]) (hp : a.tmps.getD p undef = .pointer (some ⟨k, 0, none⟩)) (hq : a.tmps.getD q undef = x) (hr : a.tmps.getD r undef = y)
    (hb : W.heap[k]? = some (.cells #[v0, v1, v2] t (0, 0))) (hd : a.defers = []) (hR : R (.returned (.tuple #[.agg #[v0, v1, v2], x, y])) W) : bodyPost Tryz.prog fn R .ret a W :=
  have ⟨⟨k0, k1, k2⟩, _⟩ := three hb
  bodyPost_ret (res42 h hp hq hr k0 k1 k2) hd hR
end Go.Proofs.YtaoeipbofhkkcaaGreatDoor
