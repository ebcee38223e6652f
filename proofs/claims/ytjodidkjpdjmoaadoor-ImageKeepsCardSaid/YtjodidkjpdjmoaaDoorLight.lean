/- The puts that a statement is given, in memory; and what light says of them. -/
import Derived.Test.YtjodidkjpdjmoaaDoorAlive
namespace Go.Proofs.YtjodidkjpdjmoaaDoor
open Go.RowKit

/-- The slice v holds n puts: where (A), how many bytes (L), which (Z). -/
def Ops (W : World) (v : Value) (n : Nat) (A : Nat → Int) (L : Nat → Nat) (Z : Nat → Nat → Int) : Prop :=
  ∃ b o sa cap, v = .slice sa n cap ∧ (0 < n → sa = some ⟨b, o, none⟩) ∧ ∀ i, i < n → W.cell? ⟨b, o + i * 2, none⟩ = some (.int .i64 (A i)) ∧ (-9223372036854775808 ≤ A i ∧ A i ≤ 9223372036854775807) ∧
    ∃ vb, W.cell? ⟨b, o + i * 2 + 1, none⟩ = some vb ∧ Bs W vb (L i) (Z i)

theorem Bs.keep {W W' : World} {v : Value} {n : Nat} {z : Nat → Int} (h : Bs W v n z) (hk : ∀ p u, W.cell? p = some u → W'.cell? p = some u) : Bs W' v n z := by
  obtain ⟨a, o, sa, cap, h1, h2, h3⟩ := h
  exact ⟨a, o, sa, cap, h1, h2, fun j hj => hk _ _ (h3 j hj)⟩
theorem Ops.keep {W W' : World} {v : Value} {n : Nat} {A : Nat → Int} {L : Nat → Nat} {Z : Nat → Nat → Int} (h : Ops W v n A L Z) (hk : ∀ p u, W.cell? p = some u → W'.cell? p = some u) : Ops W' v n A L Z := by
  obtain ⟨b, o, sa, cap, h1, h2, h3⟩ := h
  refine ⟨b, o, sa, cap, h1, h2, fun i hi => ?_⟩
  obtain ⟨c1, c2, vb, c3, c4⟩ := h3 i hi
  exact ⟨hk _ _ c1, c2, vb, hk _ _ c3, c4.keep hk⟩
theorem keep_below {W W' : World} (h : Below W.heap.size W W') : ∀ p u, W.cell? p = some u → W'.cell? p = some u := fun p _ hu => (h.cell (World.block_lt_of_cell? W p hu)).trans hu
theorem keep_img {B : Nat} {W W1 W2 : World} (h : Below W.heap.size W W1) (hg : W1.grownBy W2 (some B)) (hB : W.heap.size ≤ B) : ∀ p u, W.cell? p = some u → W2.cell? p = some u := fun p u hu => by
  have hp := World.block_lt_of_cell? W p hu
  exact hg.cell (keep_below h p u hu) (by intro e; injection e with e; omega)

def lightB (n : Nat) (L : Nat → Nat) : Bool := decide (n ≤ 30) && (List.range n).all (fun i => decide (L i ≤ 100))
theorem light_true {n : Nat} {L : Nat → Nat} (h : lightB n L = true) : n ≤ 30 ∧ ∀ i, i < n → L i ≤ 100 := by
  simp only [lightB, Bool.and_eq_true, decide_eq_true_eq, List.all_eq_true, List.mem_range] at h
  exact h

set_option maxHeartbeats 1000000 in
theorem light_any (v : Value) (n : Nat) (A : Nat → Int) (L : Nat → Nat) (Z : Nat → Nat → Int) (w : World) (hO : Ops w v n A L Z) : Calls Tryd.prog 8 #[v] w fun e w' => e = .returned (.bool (lightB n L)) ∧ w' = w := by
  obtain ⟨b, o, sa, cap, rfl, hsa, hc⟩ := hO
  by_cases h30 : n ≤ 30
  · go_enter Tryd.func8, Tryd.ntmps8
    go_wp2
    go_loop [3] (fun i => ∃ k : Nat, k ≤ n ∧ i = .int .i64 k ∧ ∀ j, j < k → L j ≤ 100) (fun i => n - (intOf i).toNat)
    case atStart => exact ⟨0, Nat.zero_le _, rfl, fun j hj => absurd hj (by omega)⟩
    case round =>
      obtain ⟨k, hk, rfl, hall⟩ := hrel
      by_cases hlt : k < n
      · obtain rfl := hsa (by omega)
        obtain ⟨c1, _, vb, c3, a, p, sb, cb, rfl, _, _⟩ := hc k hlt
        by_cases hL : L k ≤ 100
        · go_wp2
          go_round
          case rel =>
            refine ⟨k + 1, by omega, by go_num, fun j hj => ?_⟩
            by_cases e : j = k
            · subst e; exact hL
            · exact hall j (by omega)
          case measure => simp [intOf]; omega
        · go_wp2
          go_ret
          refine ⟨?_, rfl⟩
          show _ = Ending.returned (.bool (lightB n L))
          have : lightB n L = false := by
            rw [Bool.eq_false_iff]
            intro h
            exact hL ((light_true h).2 k hlt)
          rw [this]; rfl
      · obtain rfl : k = n := by omega
        go_wp2
        go_ret
        refine ⟨?_, rfl⟩
        have : lightB k L = true := by
          simp only [lightB, Bool.and_eq_true, decide_eq_true_eq, List.all_eq_true, List.mem_range]
          exact ⟨h30, hall⟩
        rw [this]; rfl
  · go_enter Tryd.func8, Tryd.ntmps8
    go_wp2
    go_ret
    refine ⟨?_, rfl⟩
    have : lightB n L = false := by
      rw [Bool.eq_false_iff]
      intro h
      exact h30 (light_true h).1
    rw [this]; rfl
end Go.Proofs.YtjodidkjpdjmoaaDoor
