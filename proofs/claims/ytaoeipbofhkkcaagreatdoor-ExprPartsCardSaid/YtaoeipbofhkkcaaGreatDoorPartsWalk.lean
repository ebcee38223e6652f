/- ExprParts answers true, at any two numbers; where the library's tables are laid. -/
import Derived.Test.YtaoeipbofhkkcaaGreatDoorPartsTwo
namespace Go.Proofs.YtaoeipbofhkkcaaGreatDoor
open Go.RowKit Go.Proofs.NumMath

set_option maxHeartbeats 4000000 in
set_option maxRecDepth 100000 in
theorem exprParts_walk (w : World) (a b : Nat) (ha : a ≤ 65535) (hb : b ≤ 65535) (m : Int) (hT : Tab16 w) (hm : MaxAt w m) : Calls Tryz.prog 6 #[.int .u16 (a : Nat), .int .u16 (b : Nat)] w fun x w' => x = .returned (.bool true) ∧ Below w.heap.size w w' := by
  have HM := Lib.hid hm
  have HT := Lib.hid hT
  have HA := Lib.hid (fun W (h : Below w.heap.size w W) => alive5_any m W (HM.out.below h) (HT.out.below h))
  clear hm hT
  by_cases h0 : b = 0
  · have hb0 : ((b : Int) == 0) = true := by rw [beq_iff_eq]; omega
    have e1 : two16 .div a b = (0, 5) := by simp [two16, h0]
    have e2 : two16 .mod a b = (0, 5) := by simp [two16, h0]
    have e3 : two16 .shl a b = (a, 0) := by simp [two16, h0]; omega
    have e4 : two16 .shr a b = (a, 0) := by simp [two16, h0]
    have p1 := fun W => two19_any .div a b ha hb W
    have p2 := fun W => two19_any .mod a b ha hb W
    have p3 := fun W => two19_any .shl a b ha hb W
    have p4 := fun W => two19_any .shr a b ha hb W
    rw [e1] at p1
    rw [e2] at p2
    rw [e3] at p3
    rw [e4] at p4
    have P1 : ∀ W, Calls Tryz.prog 19 #[.string ⟨#[47]⟩, .int .u16 (a : Nat), .int .u16 (b : Nat)] W fun x w' => x = .returned (.tuple #[.int .u16 0, .int .i64 5]) ∧ Below W.heap.size W w' := p1
    have P2 : ∀ W, Calls Tryz.prog 19 #[.string ⟨#[77, 79, 68]⟩, .int .u16 (a : Nat), .int .u16 (b : Nat)] W fun x w' => x = .returned (.tuple #[.int .u16 0, .int .i64 5]) ∧ Below W.heap.size W w' := p2
    have P3 : ∀ W, Calls Tryz.prog 19 #[.string ⟨#[83, 72, 76]⟩, .int .u16 (a : Nat), .int .u16 (b : Nat)] W fun x w' => x = .returned (.tuple #[.int .u16 (a : Nat), .int .i64 0]) ∧ Below W.heap.size W w' := p3
    have P4 : ∀ W, Calls Tryz.prog 19 #[.string ⟨#[83, 72, 82]⟩, .int .u16 (a : Nat), .int .u16 (b : Nat)] W fun x w' => x = .returned (.tuple #[.int .u16 (a : Nat), .int .i64 0]) ∧ Below W.heap.size W w' := p4
    have P1 := Lib.hid P1
    have P2 := Lib.hid P2
    have P3 := Lib.hid P3
    have P4 := Lib.hid P4
    clear p1 p2 p3 p4 e1 e2 e3 e4 h0
    go_enter Tryz.func6, Tryz.ntmps6
    go_wp2_with (first
      | (go_at_call 19; (with_reducible refine (P1.out _).mono ?_); rintro _ w1 ⟨rfl, hB1⟩; have HB1 := Lib.hid hB1; clear hB1)
      | (go_at_call 19; (with_reducible refine (P2.out _).mono ?_); rintro _ w2 ⟨rfl, hB2⟩; have HB2 := Lib.hid (HB1.out.trans (hB2.mono HB1.out.size)); clear hB2)
      | (go_at_call 19; (with_reducible refine (P3.out _).mono ?_); rintro _ w3 ⟨rfl, hB3⟩; have HB3 := Lib.hid (HB2.out.trans (hB3.mono HB2.out.size)); clear hB3)
      | (go_at_call 19; (with_reducible refine (P4.out _).mono ?_); rintro _ w4 ⟨rfl, hB4⟩; have HB4 := Lib.hid (HB3.out.trans (hB4.mono HB3.out.size)); clear hB4)
      | (go_at_call 9; refine (HA.out _ HB4.out).mono ?_; rintro _ w5 ⟨rfl, hB5⟩))
    go_ret
    exact ⟨rfl, HB4.out.trans (hB5.mono HB4.out.size)⟩
  · have hb0 : ((b : Int) == 0) = false := by rw [beq_eq_false_iff_ne]; omega
    have p1 := fun W => two19_any .div a b ha hb W
    have p2 := fun W => two19_any .mod a b ha hb W
    have p3 := fun W => two19_any .shl a b ha hb W
    have p4 := fun W => two19_any .shr a b ha hb W
    rw [kdiv a b h0] at p1
    rw [kmod a b h0] at p2
    rw [two_shl] at p3
    rw [two_shr] at p4
    have P1 : ∀ W, Calls Tryz.prog 19 #[.string ⟨#[47]⟩, .int .u16 (a : Nat), .int .u16 (b : Nat)] W fun x w' => x = .returned (.tuple #[.int .u16 ((a / b : Nat) : Int), .int .i64 0]) ∧ Below W.heap.size W w' := p1
    have P2 : ∀ W, Calls Tryz.prog 19 #[.string ⟨#[77, 79, 68]⟩, .int .u16 (a : Nat), .int .u16 (b : Nat)] W fun x w' => x = .returned (.tuple #[.int .u16 ((a % b : Nat) : Int), .int .i64 0]) ∧ Below W.heap.size W w' := p2
    have P3 : ∀ W, Calls Tryz.prog 19 #[.string ⟨#[83, 72, 76]⟩, .int .u16 (a : Nat), .int .u16 (b : Nat)] W fun x w' => x = .returned (.tuple #[.int .u16 (powL a b : Nat), .int .i64 0]) ∧ Below W.heap.size W w' := p3
    have P4 : ∀ W, Calls Tryz.prog 19 #[.string ⟨#[83, 72, 82]⟩, .int .u16 (a : Nat), .int .u16 (b : Nat)] W fun x w' => x = .returned (.tuple #[.int .u16 (halL a b : Nat), .int .i64 0]) ∧ Below W.heap.size W w' := p4
    have hq1 : a / b * b + a % b = a := by rw [Nat.mul_comm]; exact Nat.div_add_mod a b
    have hq2 : a % b < b := Nat.mod_lt a (by omega)
    obtain ⟨q, hq⟩ : ∃ q, a / b = q := ⟨_, rfl⟩
    obtain ⟨r, hr⟩ : ∃ r, a % b = r := ⟨_, rfl⟩
    obtain ⟨s, hs⟩ : ∃ s, powL a b = s := ⟨_, rfl⟩
    obtain ⟨t, ht⟩ : ∃ t, halL a b = t := ⟨_, rfl⟩
    rw [hq] at P1 hq1
    rw [hr] at P2 hq1 hq2
    rw [hs] at P3
    rw [ht] at P4
    have P1 := Lib.hid P1
    have P2 := Lib.hid P2
    have P3 := Lib.hid P3
    have P4 := Lib.hid P4
    clear p1 p2 p3 p4
    have hqI : (q : Int) * b + r = a := by exact_mod_cast hq1
    have hrI : (r : Int) < b := by omega
    have hq65 : q * b ≤ 65535 := by omega
    have hz : (q : Int) * b = ((q * b : Nat) : Int) := by simp
    have hmI : IntKind.u16.wrap ((q : Int) * b) = (q : Int) * b := IntWalk.u16_in _ (by rw [hz]; omega)
    have haI : IntKind.u16.wrap ((q : Int) * b + r) = a := by rw [hqI]; exact IntWalk.u16_in _ (by omega)
    clear hz hqI hq65 hq1 hq2
    by_cases h16 : b < 16
    · have k16 : (b : Int) < 16 := by omega
      have e0 : 2 ^ b ≤ 2 ^ 15 := Nat.pow_le_pow_right (by omega) (by omega)
      have e00 : 0 < 2 ^ b := Nat.pow_pos (by omega)
      have s0 : s = a * 2 ^ b % 65536 := by rw [← hs, powL, if_pos h16]
      have t0 : t = a / 2 ^ b := by rw [← ht, halL, if_pos h16]
      have ec : ((2 : Int)) ^ b = ((2 ^ b : Nat) : Int) := by simp
      have e1 : IntKind.u16.wrap ((2 : Int) ^ b) = ((2 ^ b : Nat) : Int) := by rw [ec, w16]; omega
      obtain ⟨p, hp⟩ : ∃ p, 2 ^ b = p := ⟨_, rfl⟩
      rw [hp] at e0 e00 s0 t0 e1
      have e2 : ¬ (p : Int) = 0 := by omega
      have e3 : IntKind.u16.wrap ((a : Int) * p) = (s : Int) := by rw [w16, s0]; simp
      have e4 : IntKind.u16.wrap ((a : Int) / p) = (t : Int) := by
        have hl : a / p ≤ a := Nat.div_le_self a p
        rw [w16, t0, ← Int.natCast_ediv]; omega
      clear e0 e00 s0 t0 ec hp hs ht hq hr
      go_enter Tryz.func6, Tryz.ntmps6
      go_upto_region 10 with (first
        | (go_at_call 19; (with_reducible refine (P1.out _).mono ?_); rintro _ w1 ⟨rfl, hB1⟩; have HB1 := Lib.hid hB1; clear hB1)
        | (go_at_call 19; (with_reducible refine (P2.out _).mono ?_); rintro _ w2 ⟨rfl, hB2⟩; have HB2 := Lib.hid (HB1.out.trans (hB2.mono HB1.out.size)); clear hB2)
        | (go_at_call 19; (with_reducible refine (P3.out _).mono ?_); rintro _ w3 ⟨rfl, hB3⟩; have HB3 := Lib.hid (HB2.out.trans (hB3.mono HB2.out.size)); clear hB3)
        | (go_at_call 19; (with_reducible refine (P4.out _).mono ?_); rintro _ w4 ⟨rfl, hB4⟩; have HB4 := Lib.hid (HB3.out.trans (hB4.mono HB3.out.size)); clear hB4)
        | (go_at_call 9; refine (HA.out _ HB4.out).mono ?_; rintro _ w5 ⟨rfl, hB5⟩))
      go_region
      have HB := Lib.hid HB4.out.drew
      generalize w4.drew = w5 at HB ⊢
      go_wp2_with (go_at_call 9; refine (HA.out _ HB.out).mono ?_; rintro _ w6 ⟨rfl, hB5⟩)
      go_ret
      exact ⟨rfl, HB.out.trans (hB5.mono HB.out.size)⟩
    · have k16 : ¬ (b : Int) < 16 := by omega
      have s0 : s = 0 := by rw [← hs, powL, if_neg h16]
      have t0 : t = 0 := by rw [← ht, halL, if_neg h16]
      subst s0 t0
      go_enter Tryz.func6, Tryz.ntmps6
      go_wp2_with (first
        | (go_at_call 19; (with_reducible refine (P1.out _).mono ?_); rintro _ w1 ⟨rfl, hB1⟩; have HB1 := Lib.hid hB1; clear hB1)
        | (go_at_call 19; (with_reducible refine (P2.out _).mono ?_); rintro _ w2 ⟨rfl, hB2⟩; have HB2 := Lib.hid (HB1.out.trans (hB2.mono HB1.out.size)); clear hB2)
        | (go_at_call 19; (with_reducible refine (P3.out _).mono ?_); rintro _ w3 ⟨rfl, hB3⟩; have HB3 := Lib.hid (HB2.out.trans (hB3.mono HB2.out.size)); clear hB3)
        | (go_at_call 19; (with_reducible refine (P4.out _).mono ?_); rintro _ w4 ⟨rfl, hB4⟩; have HB4 := Lib.hid (HB3.out.trans (hB4.mono HB3.out.size)); clear hB4)
        | (go_at_call 9; refine (HA.out _ HB4.out).mono ?_; rintro _ w5 ⟨rfl, hB5⟩))
      go_ret
      exact ⟨rfl, HB4.out.trans (hB5.mono HB4.out.size)⟩
end Go.Proofs.YtaoeipbofhkkcaaGreatDoor
