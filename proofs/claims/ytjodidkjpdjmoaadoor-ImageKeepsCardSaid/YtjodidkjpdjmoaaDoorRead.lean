/- What a loop reads of a list of bytes, and of a list of runs, that lie in rows; and how a Put is called in a loop. -/
import Derived.Test.YtjodidkjpdjmoaaDoorBytes
import Derived.Test.YtjodidkjpdjmoaaDoorFlat
import Derived.StillTailTactics
namespace Go.Proofs.YtjodidkjpdjmoaaDoor
open Go.RowKit

/-- The slice v has the bytes xs, where they are. -/
def EntsRead (W : World) (v : Value) (xs : List Ent) : Prop :=
  ∃ g sa cap, v = .slice sa xs.length cap ∧ (0 < xs.length → sa = some ⟨g, 0, none⟩) ∧ ∀ i x, xs[i]? = some x → W.cell? ⟨g, i * 2, none⟩ = some (.int .u16 (x.a : Nat)) ∧ W.cell? ⟨g, i * 2 + 1, none⟩ = some (.int .u8 x.v)
/-- The slice v has the runs rs. -/
def RunsRead (W : World) (v : Value) (rs : List Run) : Prop :=
  ∃ g sa cap, v = .slice sa rs.length cap ∧ (0 < rs.length → sa = some ⟨g, 0, none⟩) ∧ ∀ i, i < rs.length → W.cell? ⟨g, i * 2, none⟩ = some (.int .u16 ((rn rs i).p : Nat)) ∧
    ∃ q sq c, W.cell? ⟨g, i * 2 + 1, none⟩ = some (.slice sq (rn rs i).bs.length c) ∧ (0 < (rn rs i).bs.length → sq = some ⟨q, 0, none⟩) ∧ ∀ k, k < (rn rs i).bs.length → W.cell? ⟨q, k, none⟩ = some (.int .u8 ((rn rs i).bs.getD k 0))

theorem EntsRead.keep {W W' : World} {v : Value} {xs : List Ent} (h : EntsRead W v xs) (hk : ∀ p u, W.cell? p = some u → W'.cell? p = some u) : EntsRead W' v xs := by
  obtain ⟨g, sa, cap, h1, h2, h3⟩ := h
  exact ⟨g, sa, cap, h1, h2, fun i x hx => ⟨hk _ _ (h3 i x hx).1, hk _ _ (h3 i x hx).2⟩⟩
theorem RunsRead.keep {W W' : World} {v : Value} {rs : List Run} (h : RunsRead W v rs) (hk : ∀ p u, W.cell? p = some u → W'.cell? p = some u) : RunsRead W' v rs := by
  obtain ⟨g, sa, cap, h1, h2, h3⟩ := h
  refine ⟨g, sa, cap, h1, h2, fun i hi => ?_⟩
  obtain ⟨c1, q, sq, c, c2, c3, c4⟩ := h3 i hi
  exact ⟨hk _ _ c1, q, sq, c, hk _ _ c2, c3, fun k hk' => hk _ _ (c4 k hk')⟩

theorem entCells_get : ∀ (xs : List Ent) (i : Nat) (x : Ent), xs[i]? = some x → (entCells xs)[i * 2]? = some (.int .u16 (x.a : Nat)) ∧ (entCells xs)[i * 2 + 1]? = some (.int .u8 x.v)
  | [], i, x, h => by simp at h
  | y :: xs, 0, x, h => by
    simp at h; subst h; simp [entCells]
  | y :: xs, i + 1, x, h => by
    have := entCells_get xs i x (by simpa using h)
    rw [show (i + 1) * 2 = i * 2 + 1 + 1 by omega]
    exact this
theorem entCells_length : ∀ xs : List Ent, (entCells xs).length = xs.length * 2
  | [] => rfl
  | x :: xs => by
    have := entCells_length xs
    simp only [entCells, List.flatMap_cons, List.length_append, List.length_cons, List.length_nil] at this ⊢
    omega
theorem ents_read {W : World} {B : Nat} {v : Value} {xs : List Ent} (h : W.ownsRow B 37 2 v xs.length (entCells xs)) : EntsRead W v xs := by
  rcases h.2 with ⟨hv, h0⟩ | ⟨g, cap, cur, hv, _⟩
  · refine ⟨0, none, 0, by rw [hv, h0], fun h => absurd h (by omega), fun i x hx => ?_⟩
    have := (List.getElem?_eq_some_iff.1 hx).1
    omega
  · subst hv
    refine ⟨g, _, cap, rfl, fun _ => rfl, fun i x hx => ?_⟩
    have hi := (List.getElem?_eq_some_iff.1 hx).1
    rw [h.cellAt (i * 2) (by omega), h.cellAt (i * 2 + 1) (by omega)]
    exact entCells_get xs i x hx

theorem runCells_get : ∀ (ps : List (Run × Value)) (i : Nat) (x : Run × Value), ps.reverse[i]? = some x → (runCells ps)[i * 2]? = some (.int .u16 (x.1.p : Nat)) ∧ (runCells ps)[i * 2 + 1]? = some x.2
  | [], i, x, h => by simp at h
  | y :: t, i, x, h => by
    rw [List.reverse_cons] at h
    simp only [runCells]
    by_cases hi : i < t.length
    · rw [List.getElem?_append_left (by simpa using hi)] at h
      rw [List.getElem?_append_left (by rw [runCells_length]; omega), List.getElem?_append_left (by rw [runCells_length]; omega)]
      exact runCells_get t i x h
    · have hi2 : i = t.length := by
        have := (List.getElem?_eq_some_iff.1 h).1
        simp at this; omega
      subst hi2
      rw [List.getElem?_append_right (by simp), List.length_reverse, Nat.sub_self] at h
      have hx : y = x := by simpa using h
      subst hx
      rw [List.getElem?_append_right (by rw [runCells_length]; omega), runCells_length, Nat.sub_self, List.getElem?_append_right (by rw [runCells_length]; omega), runCells_length, show t.length * 2 + 1 - t.length * 2 = 1 by omega]
      exact ⟨rfl, rfl⟩
theorem runs_read {W : World} {B : Nat} {e : TypeId} {v : Value} {ps : List (Run × Value)} (h : RunsAt W B e v ps) {rs : List Run} (hrs : rs = (ps.map (·.1)).reverse) : RunsRead W v rs := by
  have hlen : rs.length = ps.length := by rw [hrs]; simp
  have each : ∀ g, (∀ j, j < ps.length * 2 → W.cell? ⟨g, j, none⟩ = (runCells ps)[j]?) → ∀ i, i < rs.length → W.cell? ⟨g, i * 2, none⟩ = some (.int .u16 ((rn rs i).p : Nat)) ∧
      ∃ q sq c, W.cell? ⟨g, i * 2 + 1, none⟩ = some (.slice sq (rn rs i).bs.length c) ∧ (0 < (rn rs i).bs.length → sq = some ⟨q, 0, none⟩) ∧ ∀ k, k < (rn rs i).bs.length → W.cell? ⟨q, k, none⟩ = some (.int .u8 ((rn rs i).bs.getD k 0)) := fun g hg i hi => by
    obtain ⟨x, hx⟩ : ∃ x, ps.reverse[i]? = some x := ⟨ps.reverse[i]'(by simp; omega), List.getElem?_eq_getElem _⟩
    obtain ⟨c1, c2⟩ := runCells_get ps i x hx
    have hr : rn rs i = x.1 := by
      unfold rn
      rw [hrs, ← List.map_reverse, List.getD_eq_getElem?_getD, List.getElem?_map, hx]; rfl
    rw [hr]
    have hb := h.bytes x (by have := List.mem_of_getElem? hx; simpa using this)
    refine ⟨(hg _ (by omega)).trans c1, ?_⟩
    rcases hb.2 with ⟨hv, h0⟩ | ⟨q, cap, cur, hv, _⟩
    · exact ⟨0, none, 0, by rw [hg _ (by omega), c2, hv, h0], fun h => absurd h (by omega), fun k hk => absurd hk (by omega)⟩
    · rw [hv] at hb
      refine ⟨q, _, cap, by rw [hg _ (by omega), c2, hv], fun _ => rfl, fun k hk => ?_⟩
      rw [hb.cellAt k (by omega), List.getElem?_map, List.getElem?_eq_getElem hk]
      simp [hk]
  rcases h.row.2 with ⟨hv, h0⟩ | ⟨g, cap, cur, hv, _⟩
  · exact ⟨0, none, 0, by rw [hv, hlen, h0], fun h => absurd h (by omega), fun i hi => absurd hi (by omega)⟩
  · have hrow := h.row
    rw [hv] at hrow
    exact ⟨g, _, cap, by rw [hv, hlen], fun _ => rfl, each g (fun j hj => hrow.cellAt j hj)⟩

theorem Img.drew {W : World} {b : Nat} {g : Nat → Option Int} {M : Nat → Nat} (h : Img W b g M) : Img W.drew b g M := ⟨⟨h.mks.marks, h.mks.free, h.mks.bits⟩, h.vals⟩
theorem light_at {n : Nat} {L : Nat → Nat} {c : Bool} (hl : lightB n L = c) {v : Value} {A : Nat → Int} {Z : Nat → Nat → Int} {w W : World} (hO : Ops w v n A L Z) (hB : Below w.heap.size w W) : Calls Tryd.prog 8 #[v] W fun e w' => e = .returned (.bool c) ∧ w' = W := by
  rw [← hl]; exact light_any v n A L Z W (hO.keep (keep_below hB))
theorem alive_at {w W : World} (hT : Tab w) (hB : Below w.heap.size w W) : Calls Tryd.prog 9 #[] W fun e w' => e = .returned (.bool true) ∧ Below W.heap.size W w' :=
  have hpos : 0 < w.heap.size := World.block_lt_of_cell? w _ (hT 0 (by omega))
  alive_any W (hT.below hpos hB) (Nat.lt_of_lt_of_le hpos hB.size)
theorem below_on {w W V : World} (h : Below w.heap.size w W) (k : Below W.heap.size W V) : Below w.heap.size w V := h.trans (k.mono h.size)
theorem tab_at {w W : World} (hT : Tab w) (hB : Below w.heap.size w W) : Tab W := hT.below (World.block_lt_of_cell? w _ (hT 0 (by omega))) hB
theorem holds_at {w W : World} {b : Nat} {g : Nat → Option Int} {M : Nat → Nat} (hT : Tab w) (hB : Below w.heap.size w W) (hI : Img W b g M) : Holds W (some ⟨b, 0, none⟩) (lst g) := .inr ⟨b, g, M, rfl, rfl, hI, tab_at hT hB, hI.lt⟩
end Go.Proofs.YtjodidkjpdjmoaaDoor
