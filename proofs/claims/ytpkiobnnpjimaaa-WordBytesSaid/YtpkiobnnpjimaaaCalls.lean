/- What each function of the packages word, pidginref01 and pidginlaw01 does when it is called, said of values and of the world; the bytes are between 0 and 255, the words between 0 and 65535. -/
import Derived.Test.YtpkiobnnpjimaaaRows
import Derived.Test.YtpkiobnnpjimaaaMath
import Derived.Test.YtpkiobnnpjimaaaShelf
import Derived.WalkKit
import Derived.WalkSpells
import Derived.WalkLawsBesides
import Derived.Handy
import Derived.Deep.RegionHeld3
import Derived.Deep.QuietTactic
import Derived.BigQuiet
import Derived.BigRegion
import Derived.LoopN
namespace Go.Proofs.Ytpkiobnnpjimaaa
open Go.RowKit Go.Proofs.WordMath

theorem ret_agg5 {a b c d e a' b' c' d' e' : Bool} (h1 : a = a') (h2 : b = b') (h3 : c = c') (h4 : d = d') (h5 : e = e') :
    Ending.returned (.agg #[.bool a, .bool b, .bool c, .bool d, .bool e]) = .returned (.agg #[.bool a', .bool b', .bool c', .bool d', .bool e']) := by rw [h1, h2, h3, h4, h5]
theorem ret_told {k : IntKind} {n n' : Int} {a b c d e a' b' c' d' e' : Bool} (h0 : n = n') (h1 : a = a') (h2 : b = b') (h3 : c = c') (h4 : d = d') (h5 : e = e') :
    Ending.returned (.tuple #[.int k n, .agg #[.bool a, .bool b, .bool c, .bool d, .bool e]]) = .returned (.tuple #[.int k n', .agg #[.bool a', .bool b', .bool c', .bool d', .bool e']]) := by rw [h0, h1, h2, h3, h4, h5]
theorem ret_int {k : IntKind} {a b : Int} (h : a = b) : Ending.returned (.int k a) = .returned (.int k b) := by rw [h]
theorem ret_bool {a b : Bool} (h : a = b) : Ending.returned (.bool a) = .returned (.bool b) := by rw [h]

theorem one_any (b : Bool) (w : World) : Calls Try.prog 47 #[.bool b] w fun e w' => e = .returned (.int .i64 (bi b 1)) ∧ w = w' := by
  cases b
  all_goals
    go_enter Try.func47, Try.ntmps47
    go_wp2
    go_ret
    exact ⟨rfl, rfl⟩
theorem bit_any (b : Bool) (n : Int) (w : World) : Calls Try.prog 43 #[.bool b, .int .i64 n] w fun e w' => e = .returned (.int .i64 (bi b n)) ∧ w = w' := by
  cases b
  all_goals
    go_enter Try.func43, Try.ntmps43
    go_wp2
    go_ret
    exact ⟨rfl, rfl⟩
theorem low_any (a : Int) (h0 : 0 ≤ a) (h1 : a ≤ 255) (w : World) : Calls Try.prog 49 #[.int .u8 a] w fun e w' => e = .returned (.int .i64 (a % 16)) ∧ w = w' := by
  go_enter Try.func49, Try.ntmps49
  go_wp2
  go_ret
  exact ⟨rfl, rfl⟩
theorem high_any (a : Int) (h0 : 0 ≤ a) (h1 : a ≤ 255) (w : World) : Calls Try.prog 51 #[.int .u8 a] w fun e w' => e = .returned (.int .i64 (a / 16)) ∧ w = w' := by
  go_enter Try.func51, Try.ntmps51
  go_wp2
  go_ret
  exact ⟨rfl, rfl⟩
theorem par_any (a : Int) (h0 : 0 ≤ a) (h1 : a ≤ 255) (w : World) : Calls Try.prog 18 #[.int .u8 a] w fun e w' => e = .returned (.bool (par a)) ∧ w = w' := by
  go_enter Try.func18, Try.ntmps18
  go_wp2_with (first | (go_at_call 45; refine (Try.bits_OnesCount8 _ _ h0 h1).mono ?_; rintro e w' ⟨rfl, rfl⟩))
  go_ret
  refine ⟨ret_bool ?_, rfl⟩
  rw [← pop_par' a h0 h1, Bool.eq_iff_iff]
  simp
  omega
set_option maxHeartbeats 400000 in
theorem rpar_any (a : Int) (h0 : 0 ≤ a) (h1 : a ≤ 255) (w : World) : Calls Try.prog 19 #[.int .u8 a] w fun e w' => e = .returned (.bool (par a)) ∧ w = w' := by
  go_enter Try.func19, Try.ntmps19
  go_wp2
  go_loop [3, 4] (fun e i => ∃ k : Nat, k ≤ 8 ∧ i = .int .i64 k ∧ e = .bool (parK k a)) (fun _ i => 8 - (intOf i).toNat)
  case atStart => exact ⟨0, by omega, rfl, rfl⟩
  case round =>
    obtain ⟨k, hk, rfl, rfl⟩ := hrel
    by_cases hlt : k < 8
    · go_wp2
      · go_round
        case rel => exact ⟨k + 1, by omega, by go_num, by rw [parK_one k a h0 h1 (by assumption)]⟩
        case measure => simp [intOf]; omega
      · go_round
        case rel => exact ⟨k + 1, by omega, by go_num, by rw [parK_zero k a h0 h1 (by assumption)]⟩
        case measure => simp [intOf]; omega
    · obtain rfl : k = 8 := by omega
      go_wp2
      go_ret
      exact ⟨rfl, rfl⟩
set_option maxHeartbeats 400000 in
theorem ofResult_any (n : Int) (w : World) : Calls Try.prog 48 #[.int .u8 (lowB n)] w fun e w' => e = .returned (.agg #[.bool (sB n), .bool (zB n), .bool false, .bool (pB n), .bool false]) ∧ Below w.heap.size w w' := by
  obtain ⟨h0, h1⟩ := lowB_bd n
  go_enter Try.func48, Try.ntmps48
  go_wp2_with (first | (go_at_call 18; refine (par_any _ h0 h1 _).mono ?_; rintro e w' ⟨rfl, rfl⟩))
  go_returns
  refine ⟨ret_agg5 ?_ ?_ rfl rfl rfl, by go_grown⟩
  · rw [Bool.eq_iff_iff]; simp [sB, lowB]; omega
  · rw [Bool.eq_iff_iff]; simp [zB, lowB]
theorem sum3_any (b : Nat) (x y z : Int) (w : World) (hx : w.cell? ⟨b, 0, none⟩ = some (.int .i64 x)) (hy : w.cell? ⟨b, 1, none⟩ = some (.int .i64 y)) (hz : w.cell? ⟨b, 2, none⟩ = some (.int .i64 z))
    (lx : 0 ≤ x ∧ x ≤ 70000) (ly : 0 ≤ y ∧ y ≤ 70000) (lz : 0 ≤ z ∧ z ≤ 70000) :
    Calls Try.prog 46 #[.slice (some ⟨b, 0, none⟩) 3 3] w fun e w' => e = .returned (.int .i64 (x + y + z)) ∧ w = w' := by
  obtain ⟨lx0, lx1⟩ := lx
  obtain ⟨ly0, ly1⟩ := ly
  obtain ⟨lz0, lz1⟩ := lz
  go_enter Try.func46, Try.ntmps46
  go_wp2
  go_rounds 4
  go_ret
  exact ⟨rfl, rfl⟩
theorem sum2_any (b : Nat) (x y : Int) (w : World) (hx : w.cell? ⟨b, 0, none⟩ = some (.int .i64 x)) (hy : w.cell? ⟨b, 1, none⟩ = some (.int .i64 y))
    (lx : 0 ≤ x ∧ x ≤ 70000) (ly : 0 ≤ y ∧ y ≤ 70000) :
    Calls Try.prog 46 #[.slice (some ⟨b, 0, none⟩) 2 2] w fun e w' => e = .returned (.int .i64 (x + y)) ∧ w = w' := by
  obtain ⟨lx0, lx1⟩ := lx
  obtain ⟨ly0, ly1⟩ := ly
  go_enter Try.func46, Try.ntmps46
  go_wp2
  go_rounds 3
  go_ret
  exact ⟨rfl, rfl⟩
end Go.Proofs.Ytpkiobnnpjimaaa
