/- The document's Find and Bytes. -/
import Derived.Test.YtjodidkjpdjmoaaDoorRisesWalk
namespace Go.Proofs.YtjodidkjpdjmoaaDoor
open Go.RowKit

set_option maxRecDepth 100000 in
set_option maxHeartbeats 2000000 in
theorem find_any (v : Value) (xs : List Ent) (a : Nat) (_ : a < 65536) (w : World) (hx : xs.length ≤ 65536) (hE : EntsRead w v xs) :
    Calls Tryd.prog 15 #[v, .int .u16 a] w fun e w' => ((e = .returned (.int .i64 (-1)) ∧ ∀ x ∈ xs, x.a ≠ a) ∨ ∃ i x, e = .returned (.int .i64 (i : Nat)) ∧ xs[i]? = some x ∧ x.a = a) ∧ w' = w := by
  obtain ⟨g, sa, c, rfl, hsa, hc⟩ := hE
  have Hc := Hid.mk' hc
  clear hc
  obtain ⟨m, hm⟩ : ∃ m, m = xs.length := ⟨_, rfl⟩
  rw [← hm] at hx hsa ⊢
  have Hm : Hid (m = xs.length) := hm
  clear hm
  go_enter Tryd.func15, Tryd.ntmps15
  go_wp2
  go_loop [5] (fun i => ∃ k : Nat, k ≤ m ∧ i = .int .i64 k ∧ Hid (∀ j x, j < k → xs[j]? = some x → x.a ≠ a)) (fun i => m - (intOf i).toNat)
  case atStart => exact ⟨0, Nat.zero_le _, rfl, Hid.mk' (fun j x h => absurd h (by omega))⟩
  case round =>
    obtain ⟨k, hk, rfl, hall⟩ := hrel
    by_cases hlt : k < m
    · obtain rfl := hsa (by omega)
      have h1 : k < xs.length := by rw [← Hm.out]; exact hlt
      obtain ⟨x, hxk⟩ : ∃ x, xs[k]? = some x := ⟨_, List.getElem?_eq_getElem h1⟩
      obtain ⟨a1, _⟩ := Hc.out k x hxk
      have hxk' : Hid (xs[k]? = some x) := hxk
      clear hxk h1
      by_cases hxa : x.a = a
      · rw [hxa] at a1
        go_wp2
        go_ret
        exact ⟨.inr ⟨k, rfl, x, hxk'.out, hxa⟩, rfl⟩
      · have hd : ((x.a : Int) == (a : Int)) = false := by rw [beq_eq_false_iff_ne]; omega
        go_wp2
        go_round
        case rel =>
          refine ⟨k + 1, by omega, by go_num, fun j y hj hy => ?_⟩
          by_cases e : j = k
          · subst e; rw [hxk'.out] at hy; cases hy; exact hxa
          · exact hall.out j y (by omega) hy
        case measure => simp [intOf]; omega
    · obtain rfl : k = m := by omega
      go_wp2
      go_ret
      refine ⟨.inl ⟨rfl, fun x hx => ?_⟩, rfl⟩
      obtain ⟨j, hj⟩ := List.getElem?_of_mem hx
      have hlt : j < xs.length := (List.getElem?_eq_some_iff.1 hj).1
      exact hall.out j x (by rw [Hm.out]; exact hlt) hj

set_option maxRecDepth 100000 in
set_option maxHeartbeats 2000000 in
/-- Texts that are the same. -/
theorem rbytes_same (va vb : Value) (n : Nat) (hn : n ≤ 65536) (z y : Nat → Int) (hzy : ∀ j, j < n → z j = y j) (w : World) (hA : Bs w va n z) (hB : Bs w vb n y) :
    Calls Tryd.prog 18 #[va, vb] w fun e w' => e = .returned (.bool true) ∧ ∃ q, w' = w.drewN q := by
  obtain ⟨ga, oa, sa, ca, rfl, hsa, hca⟩ := hA
  obtain ⟨gb, ob, sb, cb, rfl, hsb, hcb⟩ := hB
  have Ha := Hid.mk' hca
  have Hb := Hid.mk' hcb
  have Hz := Hid.mk' hzy
  clear hca hcb hzy
  go_enter Tryd.func18, Tryd.ntmps18
  go_wp2
  go_loopw [5] (fun i wr => ∃ k : Nat, k ≤ n ∧ i = .int .i64 k ∧ ∃ q, wr = w.drewN q) (fun i _ => n - (intOf i).toNat)
  case atStart => exact ⟨0, Nat.zero_le _, rfl, 0, rfl⟩
  case round =>
    obtain ⟨k, hk, rfl, q, rfl⟩ := hrel
    by_cases hlt : k < n
    · obtain rfl := hsa (by omega)
      obtain rfl := hsb (by omega)
      have a1 := Ha.out k hlt
      have b1 := Hb.out k hlt
      rw [Hz.out k hlt] at a1
      go_wp2
      go_quiet (fail)
      go_wp2
      go_roundw
      case rel => exact ⟨k + 1, by omega, by go_num, q + nq, rfl⟩
      case measure => simp [intOf]; omega
    · obtain rfl : k = n := by omega
      go_wp2
      go_ret
      exact ⟨rfl, q, rfl⟩
end Go.Proofs.YtjodidkjpdjmoaaDoor
