/- What the document's Find, power, half and two of expressions do when they are called; the symbols are at most 1000000. What the document's two of expressions does when it is called; no condition. -/
import Derived.Test.YtaoeipbofhkkcaaGreatDoorExRk
namespace Go.Proofs.YtaoeipbofhkkcaaGreatDoor
open Go.RowKit Go.Proofs.NumMath

/-! ### symbols in memory -/
def SymR (W : World) (v : Value) (l : List (List UInt8 × Nat)) : Prop :=
  ∃ b o sp c, v = .slice sp l.length c ∧ (0 < l.length → sp = some ⟨b, o, none⟩) ∧
    ∀ (i : Nat) (x : List UInt8 × Nat), l[i]? = some x → W.cell? ⟨b, o + i * 2, none⟩ = some (.string ⟨x.1.toArray⟩) ∧ W.cell? ⟨b, o + i * 2 + 1, none⟩ = some (.int .u16 (x.2 : Nat)) ∧ x.2 ≤ 65535
theorem SymR.keep {W W' : World} (hk : ∀ p u, W.cell? p = some u → W'.cell? p = some u) {v : Value} {l : List (List UInt8 × Nat)} (h : SymR W v l) : SymR W' v l := by
  obtain ⟨b, o, sp, c, hv, hs, hc⟩ := h
  exact ⟨b, o, sp, c, hv, hs, fun i x hi => ⟨hk _ _ (hc i x hi).1, hk _ _ (hc i x hi).2.1, (hc i x hi).2.2⟩⟩
theorem SymR.below {W W' : World} (hb : Below W.heap.size W W') {v : Value} {l : List (List UInt8 × Nat)} (h : SymR W v l) : SymR W' v l := SymR.keep (fun p _ hu => (hb.cell (World.block_lt_of_cell? W p hu)).trans hu) h
def findL (l : List (List UInt8 × Nat)) (s : List UInt8) : Nat × Nat := match l.find? fun x => decide (x.1 = s) with
  | some x => (x.2, 0)
  | none => (0, 3)
theorem findL_le {l : List (List UInt8 × Nat)} (s : List UInt8) (h : ∀ x ∈ l, x.2 ≤ 65535) : (findL l s).1 ≤ 65535 := by
  unfold findL
  split
  · rename_i x hx; exact h x (List.mem_of_find?_eq_some hx)
  · simp
theorem findL_at {l : List (List UInt8 × Nat)} {s : List UInt8} {k : Nat} {x : List UInt8 × Nat} (hx : l[k]? = some x) (he : x.1 = s) (hq : ∀ y ∈ l.take k, y.1 ≠ s) : findL l s = (x.2, 0) := by
  obtain ⟨hk, e⟩ := List.getElem?_eq_some_iff.1 hx
  have h : l.find? (fun x => decide (x.1 = s)) = some x := by
    rw [← List.take_append_drop k l, List.find?_append, List.find?_eq_none.2 (fun y hy => by simpa using hq y hy), List.drop_eq_getElem_cons hk, e, List.find?_cons_of_pos (by simpa using he)]
    rfl
  unfold findL
  rw [h]
theorem findL_not {l : List (List UInt8 × Nat)} {s : List UInt8} (hq : ∀ y ∈ l, y.1 ≠ s) : findL l s = (0, 3) := by
  unfold findL
  rw [List.find?_eq_none.2 (fun y hy => by simpa using hq y hy)]
set_option maxHeartbeats 1000000 in
theorem find_any (v : Value) (l : List (List UInt8 × Nat)) (s : List UInt8) (w : World) (h : SymR w v l) (hl : l.length ≤ 1000000) : Calls Tryz.prog 12 #[v, .string ⟨s.toArray⟩] w fun e w' => e = .returned (.tuple #[.int .u16 ((findL l s).1 : Nat), .int .i64 ((findL l s).2 : Nat)]) ∧ w' = w := by
  obtain ⟨b, o, sp, c, rfl, hsp, hc⟩ := h
  obtain ⟨n, hn⟩ : ∃ n, l.length = n := ⟨_, rfl⟩
  rw [hn] at hsp hl ⊢
  have HN := Lib.hid hn
  have HC := Lib.hid hc
  clear hn hc
  go_enter Tryz.func12, Tryz.ntmps12
  go_wp2
  go_loop [6] (fun i => ∃ k : Nat, k ≤ n ∧ i = .int .i64 k ∧ Hid (∀ x ∈ l.take k, x.1 ≠ s)) (fun i => n - (intOf i).toNat)
  case atStart => exact ⟨0, by omega, rfl, Lib.hid (by simp)⟩
  case round =>
    obtain ⟨k, hk, rfl, HQ⟩ := hrel
    by_cases hlt : k < n
    · obtain rfl := hsp (by omega)
      obtain ⟨x, hx⟩ : ∃ x, l[k]? = some x := ⟨_, List.getElem?_eq_getElem (by rw [HN.out]; exact hlt)⟩
      obtain ⟨x1, x2, x3⟩ := HC.out k x hx
      have HX := Lib.hid hx
      clear hx
      by_cases hL : x.1 = s
      · rw [hL] at x1
        go_wp2
        go_ret2
        have := findL_at HX.out hL HQ.out
        exact ⟨ret_two (by rw [this]) (by rw [this]; rfl), rfl⟩
      · have hb : (x.1 == s) = false := by rw [beq_eq_false_iff_ne]; exact hL
        go_wp2
        refine ⟨⟨k + 1, by omega, by go_num, Lib.hid ?_⟩, by simp [intOf]; omega⟩
        rw [List.take_add_one, HX.out]
        intro y hy
        rcases List.mem_append.1 hy with hy | hy
        · exact HQ.out y hy
        · obtain rfl : y = x := by simpa using hy
          exact hL
    · obtain rfl : k = n := by omega
      go_wp2
      go_ret2
      have := HQ.out
      rw [List.take_of_length_le (by rw [HN.out]; exact Nat.le_refl _)] at this
      have := findL_not this
      exact ⟨ret_two (by rw [this]; rfl) (by rw [this]; rfl), rfl⟩

/-! ### shifts -/
def powL (a b : Nat) : Nat := if b < 16 then a * 2 ^ b % 65536 else 0
def halL (a b : Nat) : Nat := if b < 16 then a / 2 ^ b else 0
theorem pow_step (a k : Nat) : a * 2 ^ k % 65536 * 2 % 65536 = a * 2 ^ (k + 1) % 65536 := by
  rw [Nat.pow_succ, ← Nat.mul_assoc, Nat.mod_mul_mod]
theorem hal_step (a k : Nat) : a / 2 ^ k / 2 = a / 2 ^ (k + 1) := by
  rw [Nat.pow_succ, Nat.div_div_eq_div_mul]
set_option maxHeartbeats 1000000 in
theorem power_any (a b : Nat) (ha : a ≤ 65535) (hb : b ≤ 65535) (w : World) : Calls Tryz.prog 58 #[.int .u16 a, .int .u16 b] w fun e w' => e = .returned (.int .u16 (powL a b : Nat)) ∧ w' = w := by
  go_enter Tryz.func58, Tryz.ntmps58
  go_wp2
  go_loop [0, 5] (fun x i => ∃ k : Nat, k ≤ b ∧ k ≤ 16 ∧ i = .int .u16 k ∧ x = .int .u16 ((a * 2 ^ k % 65536 : Nat))) (fun _ i => 16 - (intOf i).toNat)
  case atStart => exact ⟨0, by omega, by omega, rfl, by rw [Nat.pow_zero, Nat.mul_one, Nat.mod_eq_of_lt (by omega)]⟩
  case round =>
    obtain ⟨k, hk, hk16, rfl, rfl⟩ := hrel
    have hs := pow_step a k
    have hm := Nat.mod_lt (a * 2 ^ k) (show 0 < 65536 by decide)
    obtain ⟨z, hz⟩ : ∃ z, a * 2 ^ k % 65536 = z := ⟨_, rfl⟩
    rw [hz] at hs hm ⊢
    have HS := Lib.hid hs
    have HZ := Lib.hid hz
    clear hs hz
    by_cases hlt : k < b
    · by_cases h16 : k < 16
      · go_wp2
        refine ⟨⟨k + 1, by omega, by omega, by go_num, ?_⟩, by simp [intOf]; omega⟩
        rw [← HS.out]
        go_num
      · obtain rfl : k = 16 := by omega
        go_wp2
        go_ret
        refine ⟨?_, rfl⟩
        have : z = 0 := by rw [← HZ.out]; omega
        rw [this]; unfold powL; rw [if_neg (by omega)]; rfl
    · obtain rfl : k = b := by omega
      go_wp2
      go_ret
      refine ⟨?_, rfl⟩
      unfold powL
      split
      · rw [HZ.out]; rfl
      · obtain rfl : k = 16 := by omega
        have : z = 0 := by rw [← HZ.out]; omega
        rw [this]; rfl
set_option maxHeartbeats 1000000 in
theorem half_any (a b : Nat) (ha : a ≤ 65535) (hb : b ≤ 65535) (w : World) : Calls Tryz.prog 59 #[.int .u16 a, .int .u16 b] w fun e w' => e = .returned (.int .u16 (halL a b : Nat)) ∧ w' = w := by
  go_enter Tryz.func59, Tryz.ntmps59
  go_wp2
  go_loop [0, 5] (fun x i => ∃ k : Nat, k ≤ b ∧ k ≤ 16 ∧ i = .int .u16 k ∧ x = .int .u16 ((a / 2 ^ k : Nat))) (fun _ i => 16 - (intOf i).toNat)
  case atStart => exact ⟨0, by omega, by omega, rfl, by rw [Nat.pow_zero, Nat.div_one]⟩
  case round =>
    obtain ⟨k, hk, hk16, rfl, rfl⟩ := hrel
    have hs := hal_step a k
    have hm := Nat.div_le_self a (2 ^ k)
    obtain ⟨z, hz⟩ : ∃ z, a / 2 ^ k = z := ⟨_, rfl⟩
    rw [hz] at hs hm ⊢
    have HS := Lib.hid hs
    have HZ := Lib.hid hz
    clear hs hz
    by_cases hlt : k < b
    · by_cases h16 : k < 16
      · go_wp2
        refine ⟨⟨k + 1, by omega, by omega, by go_num, ?_⟩, by simp [intOf]; omega⟩
        rw [← HS.out]
        go_num
      · obtain rfl : k = 16 := by omega
        go_wp2
        go_ret
        refine ⟨?_, rfl⟩
        have : z = 0 := by rw [← HZ.out]; omega
        rw [this]; unfold halL; rw [if_neg (by omega)]; rfl
    · obtain rfl : k = b := by omega
      go_wp2
      go_ret
      refine ⟨?_, rfl⟩
      unfold halL
      split
      · rw [HZ.out]; rfl
      · obtain rfl : k = 16 := by omega
        have : z = 0 := by rw [← HZ.out]; omega
        rw [this]; rfl
end Go.Proofs.YtaoeipbofhkkcaaGreatDoor
namespace Go.Proofs.YtaoeipbofhkkcaaGreatDoor
open Go.RowKit Go.Proofs.NumMath

theorem bv16 (a : Nat) (ha : a ≤ 65535) : (BitVec.ofInt 16 (a : Int)).toNat = a := by
  rw [BitVec.ofInt_natCast, BitVec.toNat_ofNat]; exact Nat.mod_eq_of_lt (by omega : _ < 65536)
theorem bits_or16 (a b : Nat) (ha : a ≤ 65535) (hb : b ≤ 65535) : bits BinOp.or IntKind.u16 (a : Int) (b : Int) = ((a ||| b : Nat) : Int) := by
  have h := Nat.or_lt_two_pow (show a < 2 ^ 16 by omega) (show b < 2 ^ 16 by omega)
  show IntKind.u16.wrap ((BitVec.ofInt 16 (a : Int) ||| BitVec.ofInt 16 (b : Int)).toNat : Int) = _
  rw [BitVec.toNat_or, bv16 a ha, bv16 b hb]
  exact IntWalk.u16_in _ (by omega)
theorem bits_xor16 (a b : Nat) (ha : a ≤ 65535) (hb : b ≤ 65535) : bits BinOp.xor IntKind.u16 (a : Int) (b : Int) = ((a ^^^ b : Nat) : Int) := by
  have h := Nat.xor_lt_two_pow (show a < 2 ^ 16 by omega) (show b < 2 ^ 16 by omega)
  show IntKind.u16.wrap ((BitVec.ofInt 16 (a : Int) ^^^ BitVec.ofInt 16 (b : Int)).toNat : Int) = _
  rw [BitVec.toNat_xor, bv16 a ha, bv16 b hb]
  exact IntWalk.u16_in _ (by omega)
theorem bits_and16 (a b : Nat) (ha : a ≤ 65535) (hb : b ≤ 65535) : bits BinOp.and IntKind.u16 (a : Int) (b : Int) = ((a &&& b : Nat) : Int) := by
  have h := Nat.and_lt_two_pow a (show b < 2 ^ 16 by omega)
  show IntKind.u16.wrap ((BitVec.ofInt 16 (a : Int) &&& BitVec.ofInt 16 (b : Int)).toNat : Int) = _
  rw [BitVec.toNat_and, bv16 a ha, bv16 b hb]
  exact IntWalk.u16_in _ (by omega)
theorem bv64 (z : Int) : (((BitVec.ofInt 64 z).toNat &&& (BitVec.ofInt 64 65535).toNat : Nat) : Int) = z % 65536 := by
  have h2 : (BitVec.ofInt 64 65535).toNat = 2 ^ 16 - 1 := by decide
  rw [h2, Nat.and_two_pow_sub_one_eq_mod, BitVec.toNat_ofInt]
  rw [show ((2 ^ 64 : Nat) : Int) = 18446744073709551616 by decide]
  omega
theorem and_i64 (z : Int) : bits BinOp.and IntKind.i64 z 65535 = z % 65536 := by
  show IntKind.i64.wrap ((BitVec.ofInt 64 z &&& BitVec.ofInt 64 65535).toNat : Int) = _
  rw [BitVec.toNat_and, bv64]
  exact IntWalk.i64_in _ (by omega)
theorem and_u64 (z : Int) : bits BinOp.and IntKind.u64 z 65535 = z % 65536 := by
  show IntKind.u64.wrap ((BitVec.ofInt 64 z &&& BitVec.ofInt 64 65535).toNat : Int) = _
  rw [BitVec.toNat_and, bv64]
  exact IntWalk.u64_in _ (by omega)
theorem two_add (a b : Nat) : IntKind.u16.wrap (bits BinOp.and IntKind.i64 ((a : Int) + b) 65535) = (((a + b) % 65536 : Nat) : Int) := by
  rw [and_i64, IntWalk.u16_in _ (by omega)]; omega
theorem two_sub (a b : Nat) (hb : b ≤ 65535) : IntKind.u16.wrap (bits BinOp.and IntKind.i64 ((a : Int) - b) 65535) = (((a + (65536 - b)) % 65536 : Nat) : Int) := by
  rw [and_i64, IntWalk.u16_in _ (by omega)]; omega
theorem two_mul' (a b : Nat) (ha : a ≤ 65535) (hb : b ≤ 65535) : IntKind.u16.wrap (bits BinOp.and IntKind.u64 (IntKind.u64.wrap ((a : Int) * b)) 65535) = ((a * b % 65536 : Nat) : Int) := by
  have h1 : a * b ≤ 65535 * 65535 := Nat.mul_le_mul ha hb
  have h2 : ((a : Int) * b) = ((a * b : Nat) : Int) := by simp
  rw [h2, IntWalk.u64_in _ (by omega), and_u64, IntWalk.u16_in _ (by omega)]; omega
theorem two_div (a b : Nat) (ha : a ≤ 65535) : IntKind.u16.wrap ((a : Int) / b) = ((a / b : Nat) : Int) := by
  have h := Nat.div_le_self a b
  rw [show (a : Int) / b = ((a / b : Nat) : Int) from (Int.natCast_ediv a b).symm]
  obtain ⟨q, hq⟩ : ∃ q, a / b = q := ⟨_, rfl⟩
  rw [hq] at h ⊢
  exact IntWalk.u16_in _ (by omega)
theorem two_shl (a b : Nat) : two16 .shl a b = (powL a b, 0) := by unfold two16 powL; simp only; split <;> rfl
theorem two_shr (a b : Nat) : two16 .shr a b = (halL a b, 0) := by unfold two16 halL; simp only; split <;> rfl
set_option maxHeartbeats 1000000 in
theorem two_plain (o : O2) (a b : Nat) (ha : a ≤ 65535) (hb : b ≤ 65535) (w : World) (ho : o ≠ .div ∧ o ≠ .mod) : Calls Tryz.prog 39 #[.string ⟨(txt2 o).toArray⟩, .int .u16 a, .int .u16 b] w fun e w' => e = .returned (.tuple #[.int .u16 ((two16 o a b).1 : Nat), .int .i64 ((two16 o a b).2 : Nat)]) ∧ w' = w := by
  have hp := power_any a b ha hb
  have hh := half_any a b ha hb
  cases o
  case div => exact absurd rfl ho.1
  case mod => exact absurd rfl ho.2
  all_goals
    dsimp only [txt2]
    go_enter Tryz.func39, Tryz.ntmps39
    go_wp2_with (first
      | (go_at_call 58; refine (hp _).mono ?_; rintro e w' ⟨rfl, rfl⟩)
      | (go_at_call 59; refine (hh _).mono ?_; rintro e w' ⟨rfl, rfl⟩))
    go_ret2
  · exact ⟨ret_two (bits_or16 a b ha hb) rfl, rfl⟩
  · exact ⟨ret_two (bits_xor16 a b ha hb) rfl, rfl⟩
  · exact ⟨ret_two (bits_and16 a b ha hb) rfl, rfl⟩
  · exact ⟨ret_two (two_add a b) rfl, rfl⟩
  · exact ⟨ret_two (two_sub a b hb) rfl, rfl⟩
  · exact ⟨ret_two (two_mul' a b ha hb) rfl, rfl⟩
  · exact ⟨ret_two (by rw [two_shl]) (by rw [two_shl]; rfl), rfl⟩
  · exact ⟨ret_two (by rw [two_shr]) (by rw [two_shr]; rfl), rfl⟩
set_option maxHeartbeats 1000000 in
theorem two_any (o : O2) (a b : Nat) (ha : a ≤ 65535) (hb : b ≤ 65535) (w : World) : Calls Tryz.prog 39 #[.string ⟨(txt2 o).toArray⟩, .int .u16 a, .int .u16 b] w fun e w' => e = .returned (.tuple #[.int .u16 ((two16 o a b).1 : Nat), .int .i64 ((two16 o a b).2 : Nat)]) ∧ w' = w := by
  by_cases ho : o ≠ .div ∧ o ≠ .mod
  · exact two_plain o a b ha hb w ho
  · have hd : o = .div ∨ o = .mod := by
      cases o <;> first | exact .inl rfl | exact .inr rfl | exact absurd ⟨by decide, by decide⟩ ho
    clear ho
    by_cases h0 : b = 0
    · subst h0
      rcases hd with rfl | rfl
      all_goals
        dsimp only [txt2]
        go_enter Tryz.func39, Tryz.ntmps39
        go_wp2
        go_ret2
        exact ⟨rfl, rfl⟩
    · have hbz : ((b : Int) == 0) = false := by rw [beq_eq_false_iff_ne]; omega
      rcases hd with rfl | rfl
      · have hv : two16 .div a b = (a / b, 0) := by simp [two16, h0]
        rw [hv]
        dsimp only [txt2]
        go_enter Tryz.func39, Tryz.ntmps39
        go_wp2
        go_ret2
        exact ⟨ret_two (two_div a b ha) rfl, rfl⟩
      · have hv : two16 .mod a b = (a % b, 0) := by simp [two16, h0]
        rw [hv]
        dsimp only [txt2]
        go_enter Tryz.func39, Tryz.ntmps39
        go_wp2
        go_ret2
        exact ⟨ret_two (Int.natCast_emod a b).symm rfl, rfl⟩
end Go.Proofs.YtaoeipbofhkkcaaGreatDoor
