/- What Turn and Add16 do when they are called, of both packages, said of values and of the world; a byte is between 0 and 255, a word between 0 and 65535. -/
import Derived.Test.YtpkiobnnpjimaaaSums
import Derived.Test.YtpkiobnnpjimaaaTurned
namespace Go.Proofs.Ytpkiobnnpjimaaa
open Go.RowKit Go.Proofs.WordMath

theorem ret_pair {k : IntKind} {n n' : Int} {a a' : Bool} (h0 : n = n') (h1 : a = a') : Ending.returned (.tuple #[.int k n, .bool a]) = .returned (.tuple #[.int k n', .bool a']) := by rw [h0, h1]

theorem add16_any (m n : Int) (m0 : 0 ≤ m) (m1 : m ≤ 65535) (n0 : 0 ≤ n) (n1 : n ≤ 65535) (w : World) : Calls Try.prog 39 #[.int .u16 m, .int .u16 n] w fun e w' => e = .returned (.tuple #[.int .u16 ((m + n) % 65536), .bool (decide (65535 < m + n))]) ∧ Below w.heap.size w w' := by
    go_enter Try.func39, Try.ntmps39
    go_wp2_with (first
      | (go_at_call 46; go_call (sum2_any _ m n) as e w' ⟨rfl, rfl⟩))
    go_returns
    exact ⟨rfl, by go_grown⟩
theorem radd16_any (m n : Int) (m0 : 0 ≤ m) (m1 : m ≤ 65535) (n0 : 0 ≤ n) (n1 : n ≤ 65535) (w : World) : Calls Try.prog 40 #[.int .u16 m, .int .u16 n] w fun e w' => e = .returned (.tuple #[.int .u16 ((m + n) % 65536), .bool (decide (65535 < m + n))]) ∧ w = w' := by
    have hx := and65535 (m + n) (by omega) (by omega)
    go_enter Try.func40, Try.ntmps40
    go_wp2
    go_returns
    exact ⟨rfl, rfl⟩
set_option maxHeartbeats 1000000 in
theorem turn_any (kind a : Int) (c : Bool) (a0 : 0 ≤ a) (a1 : a ≤ 255) (w : World) : Calls Try.prog 37 #[.int .i64 kind, .int .u8 a, .bool c] w fun e w' => e = .returned (.tuple #[.int .u8 (turnB kind a c), .bool (turnC kind a c)]) ∧ w = w' := by
  obtain ⟨c0, c1⟩ := bi01 c
  have q1 := and1 a a0 a1
  have q2 := or_rot a a0 a1
  have q3 := or_low a (bi c 1) c0 c1
  have q4 := or_high a (bi c 1) a0 a1 c0 c1
  have q5 := or_high a (a % 2) a0 a1 (by omega) (by omega)
  by_cases k0 : kind = 0
  · subst k0
    go_enter Try.func37, Try.ntmps37
    go_wp2
    go_returns
    exact ⟨ret_pair rfl (by rw [Bool.eq_iff_iff]; simp [turnC]; omega), rfl⟩
  · by_cases k1 : kind = 1
    · subst k1
      go_enter Try.func37, Try.ntmps37
      go_wp2
      go_returns
      exact ⟨ret_pair rfl (by rw [Bool.eq_iff_iff]; simp [turnC]), rfl⟩
    · by_cases k2 : kind = 2
      · subst k2
        go_enter Try.func37, Try.ntmps37
        go_wp2_with (first
          | (go_at_call 47; refine (one_any _ _).mono ?_; rintro e w' ⟨rfl, rfl⟩))
        go_returns
        exact ⟨ret_pair rfl (by rw [Bool.eq_iff_iff]; simp [turnC]; omega), rfl⟩
      · by_cases k3 : kind = 3
        · subst k3
          go_enter Try.func37, Try.ntmps37
          go_wp2_with (first
            | (go_at_call 47; refine (one_any _ _).mono ?_; rintro e w' ⟨rfl, rfl⟩))
          go_returns
          exact ⟨ret_pair rfl (by rw [Bool.eq_iff_iff]; simp [turnC]), rfl⟩
        · go_enter Try.func37, Try.ntmps37
          go_wp2
          go_returns
          exact ⟨ret_pair (by simp [turnB, k0, k1, k2, k3]) (by simp [turnC, k0, k1, k2, k3]), rfl⟩
set_option maxHeartbeats 1000000 in
theorem rturn_any (kind a : Int) (c : Bool) (a0 : 0 ≤ a) (a1 : a ≤ 255) (w : World) : Calls Try.prog 38 #[.int .i64 kind, .int .u8 a, .bool c] w fun e w' => e = .returned (.tuple #[.int .u8 (turnB kind a c), .bool (turnC kind a c)]) ∧ w = w' := by
  obtain ⟨c0, c1⟩ := bi01 c
  have c2 := bi128 c
  have q2 := and255 (a * 2 + a / 128) (by omega) (by omega)
  have q3 := and255 (a * 2 + bi c 1) (by omega) (by omega)
  by_cases k0 : kind = 0
  · subst k0
    go_enter Try.func38, Try.ntmps38
    go_wp2
    go_returns
    exact ⟨ret_pair rfl rfl, rfl⟩
  · by_cases k1 : kind = 1
    · subst k1
      go_enter Try.func38, Try.ntmps38
      go_wp2
      go_returns
      exact ⟨ret_pair rfl (by rw [Bool.eq_iff_iff]; simp [turnC]), rfl⟩
    · by_cases k2 : kind = 2
      · subst k2
        go_enter Try.func38, Try.ntmps38
        go_wp2_with (first
          | (go_at_call 43; refine (bit_any _ _ _).mono ?_; rintro e w' ⟨rfl, rfl⟩))
        go_returns
        exact ⟨ret_pair rfl rfl, rfl⟩
      · by_cases k3 : kind = 3
        · subst k3
          go_enter Try.func38, Try.ntmps38
          go_wp2_with (first
            | (go_at_call 43; refine (bit_any _ _ _).mono ?_; rintro e w' ⟨rfl, rfl⟩))
          go_returns
          exact ⟨ret_pair rfl (by rw [Bool.eq_iff_iff]; simp [turnC]), rfl⟩
        · go_enter Try.func38, Try.ntmps38
          go_wp2
          go_returns
          exact ⟨ret_pair (by simp [turnB, k0, k1, k2, k3]) (by simp [turnC, k0, k1, k2, k3]), rfl⟩
end Go.Proofs.Ytpkiobnnpjimaaa
