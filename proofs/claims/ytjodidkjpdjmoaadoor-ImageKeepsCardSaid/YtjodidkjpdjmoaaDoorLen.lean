/- What Len does when it is called. -/
import Derived.Test.YtjodidkjpdjmoaaDoorLight
import Derived.Test.YtjodidkjpdjmoaaDoorOnes
import Derived.Laws.Bits128
namespace Go.Proofs.YtjodidkjpdjmoaaDoor
open Go.RowKit

theorem ones_walk (x y1 y2 y3 y4 y5 y6 : Nat)
    (e1 : IntKind.u64.wrap (bits BinOp.and IntKind.u64 ((x : Int) / 2) 6148914691236517205 + bits BinOp.and IntKind.u64 (x : Int) 6148914691236517205) = (y1 : Int))
    (e2 : IntKind.u64.wrap (bits BinOp.and IntKind.u64 ((y1 : Int) / 4) 3689348814741910323 + bits BinOp.and IntKind.u64 (y1 : Int) 3689348814741910323) = (y2 : Int))
    (e3 : bits BinOp.and IntKind.u64 (IntKind.u64.wrap ((y2 : Int) / 16 + (y2 : Int))) 1085102592571150095 = (y3 : Int))
    (e4 : IntKind.u64.wrap ((y3 : Int) + (y3 : Int) / 256) = (y4 : Int)) (e5 : IntKind.u64.wrap ((y4 : Int) + (y4 : Int) / 65536) = (y5 : Int)) (e6 : IntKind.u64.wrap ((y5 : Int) + (y5 : Int) / 4294967296) = (y6 : Int)) (h6 : y6 < 9223372036854775808) (w : World) :
    Calls Tryd.prog 24 #[.int .u64 x] w fun e w' => e = .returned (.int .i64 ((y6 % 128 : Nat) : Int)) ∧ w' = w := by
  go_enter Tryd.func24, Tryd.ntmps24
  go_wp2
  go_ret
  exact ⟨by show Ending.returned (.int .i64 (bits BinOp.and IntKind.i64 (y6 : Int) 127)) = _; rw [i64_and127]; congr 2, rfl⟩

theorem and_wrap (a b c d : Nat) (ha : a < 18446744073709551616) (hb : b < 18446744073709551616) (hc : c < 18446744073709551616) (h : (a &&& c) + (b &&& c) = d) (hd : d < 18446744073709551616) :
    IntKind.u64.wrap (bits BinOp.and IntKind.u64 (a : Int) (c : Int) + bits BinOp.and IntKind.u64 (b : Int) (c : Int)) = (d : Int) := by
  rw [bits_and_u64_nat _ _ ha hc, bits_and_u64_nat _ _ hb hc, IntKind.wrap_u64, ← h]
  omega
theorem rep5 : rep 0x55 8 = 6148914691236517205 := by decide
theorem rep3 : rep 0x33 8 = 3689348814741910323 := by decide
theorem rep0 : rep 0x0f 8 = 1085102592571150095 := by decide
theorem counts8 (x : Nat) : counts 8 x = oct (cnt 8 (x % 256)) (cnt 8 (x / 256 % 256)) (cnt 8 (x / 256 / 256 % 256)) (cnt 8 (x / 256 / 256 / 256 % 256)) (cnt 8 (x / 256 / 256 / 256 / 256 % 256))
    (cnt 8 (x / 256 / 256 / 256 / 256 / 256 % 256)) (cnt 8 (x / 256 / 256 / 256 / 256 / 256 / 256 % 256)) (cnt 8 (x / 256 / 256 / 256 / 256 / 256 / 256 / 256 % 256)) := by
  simp only [counts, oct, Nat.mul_zero, Nat.add_zero]

theorem ones_any (x : Nat) (hx : x < 18446744073709551616) (w : World) : Calls Tryd.prog 24 #[.int .u64 x] w fun e w' => e = .returned (.int .i64 (cnt 64 x : Nat)) ∧ w' = w := by
  have b1 : T1 8 x < 12297829382473034411 := by
    have h1 : x / 2 &&& rep 0x55 8 ≤ rep 0x55 8 := Nat.and_le_right
    have h2 : x &&& rep 0x55 8 ≤ rep 0x55 8 := Nat.and_le_right
    unfold T1; rw [rep5] at *; omega
  have b2 : T2 8 (T1 8 x) < 7378697629483820647 := by
    have h1 : T1 8 x / 4 &&& rep 0x33 8 ≤ rep 0x33 8 := Nat.and_le_right
    have h2 : T1 8 x &&& rep 0x33 8 ≤ rep 0x33 8 := Nat.and_le_right
    unfold T2; rw [rep3] at *; omega
  obtain ⟨y4, y5, y6, e4, e5, e6, l3, l4, l5, l6, hs⟩ := sum_up _ _ _ _ _ _ _ _ (T3 8 (T2 8 (T1 8 x))) (cnt_le _ _) (cnt_le _ _) (cnt_le _ _) (cnt_le _ _) (cnt_le _ _) (cnt_le _ _) (cnt_le _ _) (cnt_le _ _) ((T123 8 x).trans (counts8 x))
  rw [← cnt64 x] at hs
  rw [← hs]
  refine ones_walk x (T1 8 x) (T2 8 (T1 8 x)) (T3 8 (T2 8 (T1 8 x))) y4 y5 y6 ?_ ?_ ?_ ?_ ?_ ?_ l6 w
  · have := and_wrap (x / 2) x 6148914691236517205 (T1 8 x) (by omega) hx (by omega) (by unfold T1; rw [rep5]) (by omega)
    rw [Int.natCast_ediv] at this; exact this
  · have := and_wrap (T1 8 x / 4) (T1 8 x) 3689348814741910323 (T2 8 (T1 8 x)) (by omega) (by omega) (by omega) (by conv => rhs; unfold T2; rw [rep3]) (by omega)
    rw [Int.natCast_ediv] at this; exact this
  · generalize hy : T2 8 (T1 8 x) = y at *
    have e : IntKind.u64.wrap ((y : Int) / 16 + (y : Int)) = ((y / 16 + y : Nat) : Int) := by rw [IntKind.wrap_u64]; omega
    rw [e]
    have := bits_and_u64_nat (y / 16 + y) 1085102592571150095 (by omega) (by omega)
    refine this.trans ?_
    rw [← rep0]; rfl
  · rw [IntKind.wrap_u64]; omega
  · rw [IntKind.wrap_u64]; omega
  · rw [IntKind.wrap_u64]; omega

theorem seg_word {g : Nat → Option Int} {k m : Nat} (hlt : k < 1024) (hm : ∀ i, m.testBit i = (decide (i < 64) && (g (64 * k + i)).isSome)) : (seg g 0 (64 * (k + 1))).length = (seg g 0 (64 * k)).length + cnt 64 m := by
  have e := seg_add g 0 (64 * k) 64
  rw [Nat.zero_add] at e
  rw [Nat.mul_add, Nat.mul_one, e, List.length_append, seg_cnt g 64 (64 * k) m (by omega) (fun i hi => by rw [hm i]; simp [hi])]

set_option maxRecDepth 100000 in
set_option maxHeartbeats 1000000 in
theorem len_img (b : Nat) (g : Nat → Option Int) (M : Nat → Nat) (w : World) (hI : Img w b g M) (N : Nat) (hN : Hid (N = (lst g).length)) : Calls Tryd.prog 11 #[.pointer (some ⟨b, 0, none⟩)] w fun e w' => e = .returned (.int .i64 N) ∧ w' = w := by
  obtain ⟨arr, harr, hget, hload⟩ := load60 hI.mks
  go_enter Tryd.func11, Tryd.ntmps11
  go_wp2_with (refine wpList_load rfl 60 _ rfl (.agg arr) hload ?_; clear hload)
  go_loop [3, 12] (fun n i => ∃ k m : Nat, k ≤ 1024 ∧ i = .int .i64 k ∧ n = .int .i64 m ∧ m ≤ 65536 ∧ Hid (m = (seg g 0 (64 * k)).length)) (fun _ i => 1024 - (intOf i).toNat)
  case atStart => exact ⟨0, 0, Nat.zero_le _, rfl, rfl, Nat.zero_le _, (rfl : 0 = (seg g 0 0).length)⟩
  case round =>
    obtain ⟨k, m, hk, rfl, rfl, hm, hs⟩ := hrel
    by_cases hlt : k < 1024
    · have hix := index60 arr k hlt _ (hget k hlt)
      have hon := ones_any (M k) (hI.mks.lt64 k hlt) w
      have hc := cnt_le 64 (M k)
      obtain ⟨c, hcc⟩ : ∃ c, c = cnt 64 (M k) := ⟨_, rfl⟩
      rw [← hcc] at hon hc
      have hs2 : Hid (m + c = (seg g 0 (64 * (k + 1))).length) := by
        have h1 := seg_word hlt (hI.mks.bits k hlt)
        have h2 := hs.out
        show m + c = _
        rw [h1, ← h2, hcc]
      have hle : m + c ≤ 65536 := by
        have h1 := hs2.out
        have h2 := seg_length_le g 0 (64 * (k + 1))
        omega
      clear hs hcc
      go_wp2_with (go_at_call 24; refine hon.mono ?_; rintro e w' ⟨rfl, rfl⟩)
      go_round
      case rel => exact ⟨k + 1, m + c, by omega, by go_num, by go_num, hle, hs2⟩
      case measure => simp [intOf]; omega
    · obtain rfl : k = 1024 := by omega
      have hs2 := hs.out
      clear hs
      have hs3 : m = N := by rw [hN.out]; exact hs2
      clear hs2
      subst hs3
      go_wp2
      go_ret
      exact ⟨rfl, rfl⟩
theorem len_any (q : Option Addr) (xs : List Ent) (w : World) (hH : Holds w q xs) : Calls Tryd.prog 11 #[.pointer q] w fun e w' => e = .returned (.int .i64 (xs.length : Nat)) ∧ w' = w := by
  rcases hH with ⟨rfl, rfl⟩ | ⟨b, g, M, rfl, rfl, h3, h4, h5⟩
  · go_enter Tryd.func11, Tryd.ntmps11
    go_wp2
    go_ret
    exact ⟨rfl, rfl⟩
  · exact len_img b g M w h3 _ (rfl : (lst g).length = (lst g).length)
end Go.Proofs.YtjodidkjpdjmoaaDoor
