/- What ImageFills does when it is called: it returns true, and writes nothing that was there. -/
import Derived.Test.YtjodidkjpdjmoaaDoorFill
import Derived.Test.YtjodidkjpdjmoaaDoorPlaysWalk
namespace Go.Proofs.YtjodidkjpdjmoaaDoor
open Go.RowKit

theorem lst_at (g : Nat → Option Int) (i : Nat) (hi : i < 65536) : lst g = seg g 0 i ++ (entAt g i ++ seg g (i + 1) (65536 - i - 1)) := by
  have h1 : lst g = seg g 0 (i + (1 + (65536 - i - 1))) := by
    rw [show i + (1 + (65536 - i - 1)) = 65536 by omega]; rfl
  have h2 : seg g i 1 = entAt g i := by
    have := seg_succ g i 0
    rw [seg_zero, List.nil_append, Nat.add_zero] at this
    exact this
  rw [h1, seg_add, seg_add, Nat.zero_add, h2]
theorem entAt_some {g : Nat → Option Int} {i : Nat} {y : Int} (hi : i < 65536) (hg : g i = some y) : entAt g i = [⟨i, y, hi⟩] := by
  unfold entAt; simp [hi, hg]
theorem entAt_none {g : Nat → Option Int} {i : Nat} (hg : g i = none) : entAt g i = [] := by
  unfold entAt; simp [hg]
/-- How far the entries are gone through at address i. -/
def upto (g : Nat → Option Int) (i : Nat) : Nat := (seg g 0 i).length
theorem upto_zero (g : Nat → Option Int) : upto g 0 = 0 := rfl
theorem upto_some {g : Nat → Option Int} {i : Nat} {y : Int} (hi : i < 65536) (hg : g i = some y) :
    (lst g)[upto g i]? = some ⟨i, y, hi⟩ ∧ upto g (i + 1) = upto g i + 1 := by
  constructor
  · rw [lst_at g i hi, entAt_some hi hg]; simp [upto]
  · unfold upto
    rw [seg_succ, Nat.zero_add, entAt_some hi hg]; simp
theorem upto_none {g : Nat → Option Int} {i : Nat} (hg : g i = none) : (∀ x, (lst g)[upto g i]? = some x → x.a ≠ i) ∧ upto g (i + 1) = upto g i := by
  constructor
  · intro x hx e
    have := mem_lst.1 (List.mem_of_getElem? hx)
    rw [e, hg] at this; cases this
  · unfold upto
    rw [seg_succ, Nat.zero_add, entAt_none hg, List.append_nil]
theorem upto_le (g : Nat → Option Int) (i : Nat) (hi : i < 65536) : upto g i ≤ (lst g).length := by
  rw [lst_at g i hi, List.length_append]; unfold upto; omega
set_option maxRecDepth 100000 in
set_option maxHeartbeats 4000000 in
theorem imageFills_walk (v : Value) (n : Nat) (A : Nat → Int) (L : Nat → Nat) (Z : Nat → Nat → Int) {w : World} (hO : Ops w v n A L Z) (b0 : Int) (_wb : (Lit.int .u8 b0).wf = true) (hT : Tab w) :
    Calls Tryd.prog 4 #[v, .int .u8 b0] w fun e w' => e = .returned (.bool true) ∧ Below w.heap.size w w' := by
  have hb0 := Below.refl w.heap.size w
  obtain ⟨sa, cap, rfl⟩ : ∃ sa cap, v = .slice sa n cap := by obtain ⟨_, _, sa, cap, h, _⟩ := hO; exact ⟨sa, cap, h⟩
  cases hl : lightB n L with
  | false =>
    have h1 := light_at hl hO hb0
    have hA := alive_at hT hb0
    go_enter Tryd.func4, Tryd.ntmps4
    go_wp2_with (first | (go_at_call 8; refine h1.mono ?_; rintro e w' ⟨rfl, rfl⟩) | (go_at_call 9; refine hA.mono ?_; rintro e W1 ⟨rfl, hB1⟩))
    go_ret
    exact ⟨rfl, hB1⟩
  | true =>
    have h1 := (light_at hl hO hb0).mono (R' := fun e w' => e = .returned (.bool true) ∧ w = w') fun _ _ ⟨h, h'⟩ => ⟨h, h'.symm⟩
    obtain ⟨hn30, hL⟩ := light_true hl
    have p1 : Calls Tryd.prog 10 #[.slice sa n cap] w fun e W => ∃ b v' g M, e = .returned (.tuple #[.pointer (some ⟨b, 0, none⟩), v', .bool true]) ∧ Img W b g M ∧ EntsVal W v' (lst g) ∧ Below w.heap.size w W :=
      (play_any _ n A L Z hL hn30 hO).mono fun e W ⟨v', g, M, h⟩ => ⟨_, v', g, M, h⟩
    clear hL
    go_enter Tryd.func4, Tryd.ntmps4
    go_wp2_with (first
      | (go_at_call 8; refine h1.mono ?_; rintro e w' ⟨rfl, rfl⟩)
      | (go_at_call 10; refine p1.mono ?_; rintro e W1 ⟨b1, v1, g1, M1, rfl, hI1, hE1, hB1⟩; obtain ⟨gr, sr, cr, rfl, hsr, hcr⟩ := hE1.read; (have hf1 := fill_any _ _ _ (holds_at hT hB1 hI1) b0); (have Hcr := Hid.mk' hcr); clear hcr hE1)
      | (go_at_call 19; refine hf1.mono ?_; rintro e W2 ⟨rfl, hF2, hB2⟩))
    have hB12 := below_on hB1 hB2
    have hlen := lst_length_le g1
    obtain ⟨q, hq⟩ : ∃ q, W1.heap.size + 1 = q := ⟨_, rfl⟩
    rw [hq] at hF2 ⊢
    obtain ⟨N, hN⟩ : ∃ N : Nat, N = 65536 := ⟨_, rfl⟩
    have hsl : Value.slice (some ⟨q, 0, none⟩) 65536 65536 = Value.slice (some ⟨q, 0, none⟩) N N := by rw [hN]
    rw [hsl]
    have HN := Hid.mk' hN
    clear hsl hN
    obtain ⟨m, hm⟩ : ∃ m, m = (lst g1).length := ⟨_, rfl⟩
    have hlm : m ≤ 65536 := by omega
    rw [← hm] at hsr ⊢
    have hA : ∀ V, Below w.heap.size w V → Calls Tryd.prog 9 #[] V fun e V' => e = .returned (.bool true) ∧ Below V.heap.size V V' := fun V hV => alive_at hT hV
    have hs1 : ∀ i y, i < 65536 → g1 i = some y → upto g1 i < m ∧ upto g1 (i + 1) = upto g1 i + 1 ∧ W2.cell? ⟨gr, upto g1 i * 2, none⟩ = some (.int .u16 (i : Nat)) ∧ W2.cell? ⟨gr, upto g1 i * 2 + 1, none⟩ = some (.int .u8 y) ∧ W2.cell? ⟨q, i, none⟩ = some (.int .u8 y) := fun i y hi hg => by
      obtain ⟨h2, h3⟩ := upto_some hi hg
      have h4 := Hcr.out _ _ h2
      have h5 := (hF2 i hi).1
      rw [fillV_lst g1 b0 i hi, hg] at h5
      exact ⟨by rw [hm]; exact (List.getElem?_eq_some_iff.1 h2).1, h3, keep_below hB2 _ _ h4.1, keep_below hB2 _ _ h4.2, h5⟩
    have hs0 : ∀ i, i < 65536 → g1 i = none → upto g1 (i + 1) = upto g1 i ∧ W2.cell? ⟨q, i, none⟩ = some (.int .u8 b0) ∧ upto g1 i ≤ m ∧ (upto g1 i < m → ∃ a z, a ≠ i ∧ W2.cell? ⟨gr, upto g1 i * 2, none⟩ = some (.int .u16 ((a : Nat) : Int)) ∧ W2.cell? ⟨gr, upto g1 i * 2 + 1, none⟩ = some (.int .u8 z) ∧ a < 65536) := fun i hi hg => by
      obtain ⟨h2, h3⟩ := upto_none hg
      have h5 := (hF2 i hi).1
      rw [fillV_lst g1 b0 i hi, hg] at h5
      refine ⟨h3, h5, by rw [hm]; exact upto_le g1 i hi, fun hlt => ?_⟩
      rw [hm] at hlt
      have hx := List.getElem?_eq_getElem hlt
      have h4 := Hcr.out _ _ hx
      exact ⟨_, _, h2 _ hx, keep_below hB2 _ _ h4.1, keep_below hB2 _ _ h4.2, Ent.h _⟩
    have Hs1 := Hid.mk' hs1
    have Hs0 := Hid.mk' hs0
    have HA := Hid.mk' hA
    have h00 := upto_zero g1
    obtain ⟨K, hK⟩ : ∃ K, K = upto g1 := ⟨_, rfl⟩
    rw [← hK] at Hs1 Hs0 h00
    clear hs1 hs0 hA hF2 hf1 hB2 hI1 hq hm Hcr hlen h1 p1 hK
    go_loopw [9, 10, 11] (fun kk ii uu wr => ∃ i : Nat, i ≤ 65536 ∧ kk = .int .i64 (K i : Nat) ∧ ii = .int .i64 i ∧ Hid (∀ p u, W2.cell? p = some u → wr.cell? p = some u) ∧ Below w.heap.size w wr) (fun _ ii _ _ => 65536 - (intOf ii).toNat)
    case atStart => exact ⟨0, Nat.zero_le _, by rw [h00]; rfl, rfl, Hid.mk' (fun _ _ h => h), hB12⟩
    case round =>
      obtain ⟨i, hi, rfl, rfl, hkeep, hBr⟩ := hrel
      by_cases hlt : i < 65536
      · cases hg : g1 i with
        | some y =>
          obtain ⟨a1, a2, a3, a4, a5⟩ := Hs1.out i y hlt hg
          replace a3 := hkeep.out _ _ a3
          replace a4 := hkeep.out _ _ a4
          replace a5 := hkeep.out _ _ a5
          obtain rfl := hsr (by omega)
          have hiN : i < N := by rw [HN.out]; exact hlt
          have hd : decide ((i : Int) < 65536) = true := by simp; omega
          have hyy : (y != y) = false := by simp
          obtain ⟨k, hk⟩ : ∃ k, K i = k := ⟨_, rfl⟩
          rw [hk] at a1 a2 a3 a4 ⊢
          have Ha2 := Hid.mk' a2
          clear a2 hg hk
          go_wp2
          exact ⟨⟨i + 1, by omega, by rw [Ha2.out]; simp, by simp, hkeep, hBr⟩, by simp [intOf]; omega⟩
        | none =>
          obtain ⟨a2, a5, a6, a7⟩ := Hs0.out i hlt hg
          replace a5 := hkeep.out _ _ a5
          have hiN : i < N := by rw [HN.out]; exact hlt
          have hd : decide ((i : Int) < 65536) = true := by simp; omega
          have hyy : (b0 != b0) = false := by simp
          obtain ⟨k, hk⟩ : ∃ k, K i = k := ⟨_, rfl⟩
          rw [hk] at a2 a6 a7 ⊢
          have Ha2 := Hid.mk' a2
          clear a2 hg hk
          by_cases hkm : k < m
          · obtain ⟨a, z, c1, c2, c3, c4⟩ := a7 hkm
            clear a7
            replace c2 := hkeep.out _ _ c2
            replace c3 := hkeep.out _ _ c3
            obtain rfl := hsr (by omega)
            have hai : ((a : Int) == (i : Int)) = false := by simp; omega
            go_wp2
            exact ⟨⟨i + 1, by omega, by rw [Ha2.out], by simp, hkeep, hBr⟩, by simp [intOf]; omega⟩
          · obtain rfl : k = m := by omega
            clear a7
            have hmm : decide ((k : Int) < (k : Int)) = false := by simp
            go_wp2
            exact ⟨⟨i + 1, by omega, by rw [Ha2.out], by simp, hkeep, hBr⟩, by simp [intOf]; omega⟩
      · obtain rfl : i = 65536 := by omega
        have HAr := HA.out _ hBr
        have hd : decide (((65536 : Nat) : Int) < 65536) = false := by simp
        go_wp2_with ((go_at_call 9; refine HAr.mono ?_; rintro e W3 ⟨rfl, hB3⟩))
        go_ret
        exact ⟨rfl, below_on hBr hB3⟩
end Go.Proofs.YtjodidkjpdjmoaaDoor
