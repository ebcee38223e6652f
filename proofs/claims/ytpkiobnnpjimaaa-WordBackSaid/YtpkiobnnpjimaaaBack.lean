/- The law WordBack returns true whatever two bytes and carry it is given, and leaves all memory that was there as it was: 'Rows.WordBackSaid'. There is no condition. -/
import Derived.Test.YtpkiobnnpjimaaaAlive
import Derived.Test.YtpkiobnnpjimaaaTurns
import Derived.Test.YtpkiobnnpjimaaaRows
import Derived.WalkKit
import Derived.ProofKit
import Derived.OpenShut
namespace Go.Proofs.Ytpkiobnnpjimaaa.wordBack
open Go.Proofs.WordMath
open Go.ChangeShapes Go.WideShapes Go.ChangeAt Go.RowKit
set_option linter.unusedVariables false      -- a walk need not use every 'w<i>' (that an integer argument fits its kind)

theorem own : ownKnob Try.prog.godebug = none := by kernel_rfl

/-! ### STEP 1: THE WALK: the Go text returns true. 'Grown w w'': the world has at most new blocks (Derived/RowKit3.lean). Part the cases AHEAD of 'go_enter' where a test parts the walk; take each callee by a contract of your own. -/
theorem turnB_bd (k a : Int) (c : Bool) (a0 : 0 ≤ a) (a1 : a ≤ 255) : 0 ≤ turnB k a c ∧ turnB k a c ≤ 255 := by
  obtain ⟨c0, c1⟩ := bi01 c
  unfold turnB
  repeat' split
  all_goals omega
theorem turn_back (a : Int) (c : Bool) (a0 : 0 ≤ a) (a1 : a ≤ 255) : turnB 3 (turnB 2 a c) (turnC 2 a c) = a ∧ turnC 3 (turnB 2 a c) (turnC 2 a c) = c := by
  have e1 : turnB 2 a c = (a * 2 + bi c 1) % 256 := rfl
  have e2 : turnC 2 a c = decide (128 ≤ a) := rfl
  have e3 : ∀ x y, turnB 3 x y = x / 2 + bi y 1 * 128 := fun _ _ => rfl
  have e4 : ∀ x y, turnC 3 x y = decide (x % 2 = 1) := fun _ _ => rfl
  rw [e3, e4, e1, e2]
  have f1 : bi (decide (128 ≤ a)) 1 = if 128 ≤ a then 1 else 0 := by unfold bi; simp
  rw [f1]
  cases c
  · have f2 : bi false 1 = 0 := rfl
    rw [f2]
    refine ⟨by split <;> omega, decide_eq_false (by omega)⟩
  · have f2 : bi true 1 = 1 := rfl
    rw [f2]
    refine ⟨by split <;> omega, decide_eq_true (by omega)⟩
theorem turn_again (a : Int) (a0 : 0 ≤ a) (a1 : a ≤ 255) : turnB 1 (turnB 0 a false) false = a := by
  have e1 : turnB 0 a false = (a * 2 + a / 128) % 256 := rfl
  have e3 : ∀ x y, turnB 1 x y = x / 2 + x % 2 * 128 := fun _ _ => rfl
  rw [e3, e1]
  by_cases h : a < 128
  · have h0 : a / 128 = 0 := by omega
    have h1 : (a * 2 + a / 128) % 256 = a * 2 := by rw [h0]; omega
    rw [h1]
    omega
  · have h0 : a / 128 = 1 := by omega
    have h1 : (a * 2 + a / 128) % 256 = a * 2 - 255 := by rw [h0]; omega
    rw [h1]
    omega
theorem call_turn3 (a : Int) (c : Bool) (a0 : 0 ≤ a) (a1 : a ≤ 255) (w : World) : Calls Try.prog 37 #[.int .i64 3, .int .u8 (turnB 2 a c), .bool (turnC 2 a c)] w fun e w' => e = .returned (.tuple #[.int .u8 a, .bool c]) ∧ w = w' :=
  (turn_any 3 (turnB 2 a c) (turnC 2 a c) (turnB_bd 2 a c a0 a1).1 (turnB_bd 2 a c a0 a1).2 w).mono fun _ _ ⟨he, hw⟩ => ⟨he.trans (ret_pair (turn_back a c a0 a1).1 (turn_back a c a0 a1).2), hw⟩
theorem call_turn1 (a : Int) (a0 : 0 ≤ a) (a1 : a ≤ 255) (w : World) : Calls Try.prog 37 #[.int .i64 1, .int .u8 (turnB 0 a false), .bool false] w fun e w' => e = .returned (.tuple #[.int .u8 a, .bool (turnC 1 (turnB 0 a false) false)]) ∧ w = w' :=
  (turn_any 1 (turnB 0 a false) false (turnB_bd 0 a false a0 a1).1 (turnB_bd 0 a false a0 a1).2 w).mono fun _ _ ⟨he, hw⟩ => ⟨he.trans (ret_pair (turn_again a a0 a1) rfl), hw⟩
theorem back_add (a b : Int) (c : Bool) (a0 : 0 ≤ a) (a1 : a ≤ 255) (b0 : 0 ≤ b) (b1 : b ≤ 255) (w : World) : Calls Try.prog 21 #[.int .u8 a, .int .u8 b, .bool c] w fun e w' =>
    (∃ s h p k, e = .returned (.tuple #[.int .u8 (lowB (a + b + bi c 1)), .agg #[.bool s, .bool (lowB (a + b + bi c 1) == 0), .bool h, .bool p, .bool k]])) ∧ Below w.heap.size w w' :=
  (add_any a b c a0 a1 b0 b1 w).mono fun _ _ ⟨he, hb⟩ => ⟨⟨_, _, _, _, he.trans (ret_told rfl rfl rfl rfl rfl rfl)⟩, hb⟩
theorem back_sub (a b : Int) (c : Bool) (a0 : 0 ≤ a) (a1 : a ≤ 255) (b0 : 0 ≤ b) (b1 : b ≤ 255) (w : World) : Calls Try.prog 23 #[.int .u8 (lowB (a + b + bi c 1)), .int .u8 b, .bool c] w fun e w' =>
    (∃ s z h p k, e = .returned (.tuple #[.int .u8 a, .agg #[.bool s, .bool z, .bool h, .bool p, .bool k]])) ∧ Below w.heap.size w w' :=
  (sub_any (lowB (a + b + bi c 1)) b c (lowB_bd _).1 (lowB_bd _).2 b0 b1 w).mono fun _ _ ⟨he, hb⟩ => ⟨⟨_, _, _, _, _, he.trans (ret_told (by have := bi01 c; unfold lowB; omega) rfl rfl rfl rfl rfl)⟩, hb⟩
theorem back_less (a b : Int) (a0 : 0 ≤ a) (a1 : a ≤ 255) (b0 : 0 ≤ b) (b1 : b ≤ 255) (w : World) : Calls Try.prog 23 #[.int .u8 a, .int .u8 b, .bool false] w fun e w' =>
    (∃ t s h p, e = .returned (.tuple #[.int .u8 t, .agg #[.bool s, .bool (a == b), .bool h, .bool p, .bool (decide (a < b))]])) ∧ Below w.heap.size w w' :=
  (sub_any a b false a0 a1 b0 b1 w).mono fun _ _ ⟨he, hb⟩ => ⟨⟨_, _, _, _, he.trans (by
    have f2 : bi false 1 = 0 := rfl
    rw [f2]
    exact ret_told rfl rfl (by unfold zB; rw [Bool.eq_iff_iff]; simp only [decide_eq_true_eq, beq_iff_eq]; omega) rfl rfl (by rw [Bool.eq_iff_iff]; simp only [decide_eq_true_eq]; omega))⟩, hb⟩
set_option maxRecDepth 100000 in
set_option maxHeartbeats 2000000 in
theorem walk (a0 : Int) (a1 : Int) (a2 : Bool) (w0 : (Lit.int .u8 a0).wf = true) (w1 : (Lit.int .u8 a1).wf = true) (w : World) :
    Calls Try.prog 8 #[.int .u8 a0, .int .u8 a1, .bool a2] w fun e w' => e = .returned (.bool true) ∧ Below w.heap.size w w' := by
  obtain ⟨l0, l1⟩ : 0 ≤ a0 ∧ a0 ≤ 255 := bounds_u8 w0
  obtain ⟨l2, l3⟩ : 0 ≤ a1 ∧ a1 ≤ 255 := bounds_u8 w1
  clear w0 w1
  obtain ⟨q0, q1⟩ := lowB_bd (a0 + a1 + bi a2 1)
  obtain ⟨r0, r1⟩ := turnB_bd 2 a0 a2 l0 l1
  obtain ⟨s0, s1⟩ := turnB_bd 0 a0 false l0 l1
  go_enter Try.func8, Try.ntmps8
  go_wp2_with (first
    | (go_at_call 21; with_reducible refine (back_add a0 a1 a2 l0 l1 l2 l3 _).mono ?_; rintro e W1 ⟨⟨f1, g1, i1, k1, rfl⟩, hb1⟩; (have hg1 : Below w.heap.size w W1 := hb1); clear hb1)
    | (go_at_call 23; with_reducible refine (back_sub a0 a1 a2 l0 l1 l2 l3 _).mono ?_; rintro e W2 ⟨⟨f2, g2, i2, k2, j2, rfl⟩, hb2⟩; (have hk1_2 := at_below hb2 (at_new W1 _)); (have hz1_2 : W1.heap.size < W2.heap.size := by have := hb2.size; simp at this; omega); (have hg2 : Below w.heap.size w W2 := below_step (hg1.alloc hg1.size _) hb2); clear hb2 hg1)
    | (go_at_call 23; with_reducible refine (back_less a0 a1 l0 l1 l2 l3 _).mono ?_; rintro e W3 ⟨⟨f3, g3, i3, k3, rfl⟩, hb3⟩; (have hk1_3 := at_below hb3 (at_old hk1_2)); clear hk1_2; (have hk2_3 := at_below hb3 (at_new W2 _)); (have hz2_3 : W2.heap.size < W3.heap.size := by have := hb3.size; simp at this; omega); (have hz1_3 : W1.heap.size < W3.heap.size := by omega); (have hg3 : Below w.heap.size w W3 := below_step (hg2.alloc hg2.size _) hb3); clear hb3 hg2; obtain ⟨_, _, _, _, _⟩ := (five hk1_3).1)
    | (go_at_call 37; with_reducible refine (turn_any 2 a0 a2 l0 l1 _).mono ?_; rintro e V ⟨rfl, rfl⟩)
    | (go_at_call 37; with_reducible refine (call_turn3 a0 a2 l0 l1 _).mono ?_; rintro e V ⟨rfl, rfl⟩)
    | (go_at_call 37; with_reducible refine (turn_any 0 a0 false l0 l1 _).mono ?_; rintro e V ⟨rfl, rfl⟩)
    | (go_at_call 37; with_reducible refine (call_turn1 a0 l0 l1 _).mono ?_; rintro e V ⟨rfl, rfl⟩)
    | (go_at_call 20; refine (alive_any _).mono ?_; rintro e V5 ⟨rfl, hb5⟩; (have hh5 : Below w.heap.size w V5 := below_step (hg3.alloc hg3.size _) hb5); clear hb5))
  go_ret
  exact ⟨rfl, hh5⟩

/-! ### THE ROW's STEP: WRITTEN OUT: LEAVE IT -/
set_option maxRecDepth 100000 in
theorem lifted (os : Os) (started : os.Started) (H : Type) (enc : TypeId × Value → H) :
    ReturnsInHanded {} Try.checked os 8 .any (Rows.wordBackSpec.pre6 enc Try.prog Try.f8 Rows.wordBackRow.domain false) (Rows.wordBackSpec.post enc Try.prog Try.f8 false true false false) := by
  refine returnsInHanded_of_change (C := Try.checked) own started (by kernel_rfl) Try.func8
    (ChangeSpec.witness6 (enc := enc) (C := Try.checked) false ⟨#[], #[.int .u8 0, .int .u8 0, .bool false], []⟩ 8 (by kernel_rfl) (by kernel_rfl) (by kernel_rfl) (by kernel_rfl)) ?_
  intro W base args ds gs before hval0 hW hcnd _
  have hval : ∀ (j : Nat) t v, Try.f8.params[j]? = some t → args[j]? = some v → Value.okWide Try.prog W .any base t v := hval0
  have hW' := hW
  obtain ⟨p, q, hA0, hV, rfl, hfz, hnd⟩ := hW
  have hA : DataW.TrodAll enc Try.prog W 0 (fun _ => true) true Try.f8.params.toList args.toList ds p := hA0
  rw [Try.params8] at hA hval
  obtain ⟨v0, vs0, d0, ds0, p0, q0, hargs, rfl, rfl, h0, r0⟩ := trodAll_cons hA
  obtain ⟨v1, vs1, d1, ds1, p1, q1, rfl, rfl, rfl, h1, r1⟩ := trodAll_cons r0
  obtain ⟨v2, vs2, d2, ds2, p2, q2, rfl, rfl, rfl, h2, r2⟩ := trodAll_cons r1
  obtain ⟨rfl, rfl, rfl⟩ := trodAll_nil r2
  obtain rfl : args = #[v0, v1, v2] := by cases args; simp_all
  obtain ⟨rfl, rfl⟩ := trodVars_none hV
  obtain ⟨a0, rfl, rfl, rfl, w0⟩ := open_int Try.underlying5 (hval 0 5 v0 rfl rfl) h0
  obtain ⟨a1, rfl, rfl, rfl, w1⟩ := open_int Try.underlying5 (hval 1 5 v1 rfl rfl) h1
  obtain ⟨a2, rfl, rfl, rfl⟩ := open_bool Try.underlying4 (hval 2 4 v2 rfl rfl) h2
  clear hA0 hval0
  simp only [List.append_nil] at hW'
  refine (walk a0 a1 a2 w0 w1 W).mono fun e W' ⟨he, hg⟩ => ?_
  subst he
  exact ⟨_, rfl, _, _, _, [], [], [], hW', (trodAll_cons_mk (shut_bool Try.underlying4 _) trodAll_mk0), (trodAll_cons_mk (shut_int Try.underlying5 w0) (trodAll_cons_mk (shut_int Try.underlying5 w1) (trodAll_cons_mk (shut_bool Try.underlying4 _) trodAll_mk0))), rfl,
    hg.frame _, fun h => by cases h⟩

theorem over : Rows.wordBackRow.holds Try.pinned (OpenSpec.ofChange Rows.wordBackSpec) :=
  OpenClaim.holds_of_wide 8 Try.f8 rfl rfl rfl rfl rfl rfl rfl ⟨rfl, rfl, rfl, rfl, rfl⟩ rfl rfl rfl rfl rfl (by kernel_rfl) Try.func8 (by kernel_rfl)
    (of_decide_eq_true (by kernel_rfl)) (by unfold Func.isWrapper; first | (rw [if_pos (by decide +kernel)]; kernel_rfl) | (rw [if_neg (by decide +kernel)]; exact ⟨rfl, rfl⟩))
    (fun os started H enc _ => lifted os started H enc)

/-- ████ THE STATEMENT ████ -/
theorem proved : Rows.WordBackSaid :=
  over
#print axioms proved
end Go.Proofs.Ytpkiobnnpjimaaa.wordBack
