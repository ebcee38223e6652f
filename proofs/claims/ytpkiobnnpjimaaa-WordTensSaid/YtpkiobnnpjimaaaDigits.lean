/- The law WordTens returns true whatever two bytes it is given, and leaves all memory that was there as it was: 'Rows.WordTensSaid'. There is no condition. -/
import Derived.Test.YtpkiobnnpjimaaaAlive
import Derived.Test.YtpkiobnnpjimaaaRows
import Derived.WalkKit
import Derived.ProofKit
import Derived.OpenShut
namespace Go.Proofs.Ytpkiobnnpjimaaa.wordTens
open Go.Proofs.WordMath
open Go.ChangeShapes Go.WideShapes Go.ChangeAt Go.RowKit
set_option linter.unusedVariables false      -- a walk need not use every 'w<i>' (that an integer argument fits its kind)

theorem own : ownKnob Try.prog.godebug = none := by kernel_rfl

/-! ### STEP 1: THE WALK: the Go text returns true. 'Grown w w'': the world has at most new blocks (Derived/RowKit3.lean). Part the cases AHEAD of 'go_enter' where a test parts the walk; take each callee by a contract of your own. -/
theorem tens_add (a b : Int) (a0 : 0 ≤ a) (a1 : a ≤ 99) (b0 : 0 ≤ b) (b1 : b ≤ 99) (w : World) : Calls Try.prog 21 #[.int .u8 (a / 10 * 16 + a % 10), .int .u8 (b / 10 * 16 + b % 10), .bool false] w fun e w' =>
    (∃ s z p, e = .returned (.tuple #[.int .u8 ((a / 10 * 16 + a % 10 + (b / 10 * 16 + b % 10)) % 256), .agg #[.bool s, .bool z, .bool (decide (15 < a % 10 + b % 10)), .bool p, .bool (decide (255 < a / 10 * 16 + a % 10 + (b / 10 * 16 + b % 10)))]])) ∧ Below w.heap.size w w' :=
  (add_any (a / 10 * 16 + a % 10) (b / 10 * 16 + b % 10) false (by omega) (by omega) (by omega) (by omega) w).mono fun _ _ ⟨he, hb⟩ => ⟨⟨_, _, _, he.trans (by
    have e1 : bi false 1 = 0 := rfl
    rw [e1]
    exact ret_told (by unfold lowB; omega) rfl rfl (by rw [Bool.eq_iff_iff]; simp only [decide_eq_true_eq]; omega) rfl (by rw [Bool.eq_iff_iff]; simp only [decide_eq_true_eq]; omega))⟩, hb⟩
theorem tens_daa (a b : Int) (s z p : Bool) (a0 : 0 ≤ a) (a1 : a ≤ 99) (b0 : 0 ≤ b) (b1 : b ≤ 99) (w : World) :
    Calls Try.prog 33 #[.int .u8 ((a / 10 * 16 + a % 10 + (b / 10 * 16 + b % 10)) % 256), .agg #[.bool s, .bool z, .bool (decide (15 < a % 10 + b % 10)), .bool p, .bool (decide (255 < a / 10 * 16 + a % 10 + (b / 10 * 16 + b % 10)))]] w fun e w' =>
    (∃ s' z' h' p', e = .returned (.tuple #[.int .u8 ((a + b) / 10 % 10 * 16 + (a + b) % 10), .agg #[.bool s', .bool z', .bool h', .bool p', .bool (decide (99 < a + b))]])) ∧ Below w.heap.size w w' := by
  obtain ⟨x, y, hx0, hx1, hy0, hy1, rfl⟩ : ∃ x y : Int, 0 ≤ x ∧ x ≤ 9 ∧ 0 ≤ y ∧ y ≤ 9 ∧ a = 10 * x + y := ⟨a / 10, a % 10, by omega, by omega, by omega, by omega, by omega⟩
  obtain ⟨u, v, hu0, hu1, hv0, hv1, rfl⟩ : ∃ u v : Int, 0 ≤ u ∧ u ≤ 9 ∧ 0 ≤ v ∧ v ≤ 9 ∧ b = 10 * u + v := ⟨b / 10, b % 10, by omega, by omega, by omega, by omega, by omega⟩
  have e1 : (10 * x + y) / 10 = x := by omega
  have e2 : (10 * x + y) % 10 = y := by omega
  have e3 : (10 * u + v) / 10 = u := by omega
  have e4 : (10 * u + v) % 10 = v := by omega
  rw [e1, e2, e3, e4]
  by_cases hl : 9 < y + v
  · by_cases hk : 9 < x + u + 1
    · skip
      have n1 : (10 * x + y + (10 * u + v)) / 10 = x + u + 1 := by omega
      have n2 : (10 * x + y + (10 * u + v)) % 10 = y + v - 10 := by omega
      have n3 : (x + u + 1) % 10 = x + u + 1 - 10 := by omega
      refine (daa_any ((x * 16 + y + (u * 16 + v)) % 256) 6 s z _ p _ true (by omega) (by omega) (.inl ⟨rfl, by simp only [decide_eq_true_eq]; omega⟩) (.inl ⟨rfl, by simp only [decide_eq_true_eq]; omega⟩) w).mono fun _ _ ⟨he, hb⟩ => ⟨⟨_, _, _, _, he.trans (ret_told ?_ rfl rfl rfl rfl ?_)⟩, hb⟩
      · rw [bi_true96, n1, n2, n3]
        unfold lowB
        by_cases hN : x * 16 + y + (u * 16 + v) < 256
        · omega
        · omega
      · exact (decide_eq_true (by omega)).symm
    · skip
      have n1 : (10 * x + y + (10 * u + v)) / 10 = x + u + 1 := by omega
      have n2 : (10 * x + y + (10 * u + v)) % 10 = y + v - 10 := by omega
      have n3 : (x + u + 1) % 10 = x + u + 1 := by omega
      have hT : (x * 16 + y + (u * 16 + v)) % 256 = x * 16 + y + (u * 16 + v) := Int.emod_eq_of_lt (by omega) (by omega)
      refine (daa_any ((x * 16 + y + (u * 16 + v)) % 256) 6 s z _ p _ false (by omega) (by omega) (.inl ⟨rfl, by simp only [decide_eq_true_eq]; omega⟩) (.inr ⟨rfl, by omega, by simp only [decide_eq_false_iff_not]; omega⟩) w).mono fun _ _ ⟨he, hb⟩ => ⟨⟨_, _, _, _, he.trans (ret_told ?_ rfl rfl rfl rfl ?_)⟩, hb⟩
      · rw [bi_false96, n1, n2, n3]
        unfold lowB
        by_cases hN : x * 16 + y + (u * 16 + v) < 256
        · omega
        · omega
      · exact (decide_eq_false (by omega)).symm
  · by_cases hk : 9 < x + u
    · skip
      have n1 : (10 * x + y + (10 * u + v)) / 10 = x + u := by omega
      have n2 : (10 * x + y + (10 * u + v)) % 10 = y + v := by omega
      have n3 : (x + u) % 10 = x + u - 10 := by omega
      refine (daa_any ((x * 16 + y + (u * 16 + v)) % 256) 0 s z _ p _ true (by omega) (by omega) (.inr ⟨rfl, by omega, by simp only [decide_eq_false_iff_not]; omega⟩) (.inl ⟨rfl, by simp only [decide_eq_true_eq]; omega⟩) w).mono fun _ _ ⟨he, hb⟩ => ⟨⟨_, _, _, _, he.trans (ret_told ?_ rfl rfl rfl rfl ?_)⟩, hb⟩
      · rw [bi_true96, n1, n2, n3]
        unfold lowB
        by_cases hN : x * 16 + y + (u * 16 + v) < 256
        · omega
        · omega
      · exact (decide_eq_true (by omega)).symm
    · skip
      have n1 : (10 * x + y + (10 * u + v)) / 10 = x + u := by omega
      have n2 : (10 * x + y + (10 * u + v)) % 10 = y + v := by omega
      have n3 : (x + u) % 10 = x + u := by omega
      have hT : (x * 16 + y + (u * 16 + v)) % 256 = x * 16 + y + (u * 16 + v) := Int.emod_eq_of_lt (by omega) (by omega)
      refine (daa_any ((x * 16 + y + (u * 16 + v)) % 256) 0 s z _ p _ false (by omega) (by omega) (.inr ⟨rfl, by omega, by simp only [decide_eq_false_iff_not]; omega⟩) (.inr ⟨rfl, by omega, by simp only [decide_eq_false_iff_not]; omega⟩) w).mono fun _ _ ⟨he, hb⟩ => ⟨⟨_, _, _, _, he.trans (ret_told ?_ rfl rfl rfl rfl ?_)⟩, hb⟩
      · rw [bi_false96, n1, n2, n3]
        unfold lowB
        by_cases hN : x * 16 + y + (u * 16 + v) < 256
        · omega
        · omega
      · exact (decide_eq_false (by omega)).symm
set_option maxHeartbeats 2000000 in
theorem walk (a0 : Int) (a1 : Int) (w0 : (Lit.int .u8 a0).wf = true) (w1 : (Lit.int .u8 a1).wf = true) (w : World) :
    Calls Try.prog 9 #[.int .u8 a0, .int .u8 a1] w fun e w' => e = .returned (.bool true) ∧ Below w.heap.size w w' := by
  obtain ⟨l0, l1⟩ : 0 ≤ a0 ∧ a0 ≤ 255 := bounds_u8 w0
  obtain ⟨l2, l3⟩ : 0 ≤ a1 ∧ a1 ≤ 255 := bounds_u8 w1
  clear w0 w1
  by_cases ha : a0 ≤ 99
  · by_cases hb : a1 ≤ 99
    · go_enter Try.func9, Try.ntmps9
      go_wp2_with (first
        | (go_at_call 21; with_reducible refine (tens_add a0 a1 l0 ha l2 hb _).mono ?_; rintro e W1 ⟨⟨s, z, p, rfl⟩, hb1⟩)
        | (go_at_call 33; with_reducible refine (tens_daa a0 a1 s z p l0 ha l2 hb _).mono ?_; rintro e W2 ⟨⟨s', z', h', p', rfl⟩, hb2⟩; (have hg2 : Below w.heap.size w W2 := below_step (hb1.alloc hb1.size _) hb2))
        | (go_at_call 20; refine (alive_any _).mono ?_; rintro e W3 ⟨rfl, hb3⟩; (have hg3 : Below w.heap.size w W3 := below_step (hg2.alloc hg2.size _) hb3)))
      go_ret
      exact ⟨rfl, hg3⟩
    · go_enter Try.func9, Try.ntmps9
      go_wp2_with (first
        | (go_at_call 20; refine (alive_any _).mono ?_; rintro e W3 ⟨rfl, hb3⟩))
      go_ret
      exact ⟨rfl, hb3⟩
  · go_enter Try.func9, Try.ntmps9
    go_wp2_with (first
      | (go_at_call 20; refine (alive_any _).mono ?_; rintro e W3 ⟨rfl, hb3⟩))
    go_ret
    exact ⟨rfl, hb3⟩

/-! ### THE ROW's STEP: WRITTEN OUT: LEAVE IT -/
set_option maxRecDepth 100000 in
theorem lifted (os : Os) (started : os.Started) (H : Type) (enc : TypeId × Value → H) :
    ReturnsInHanded {} Try.checked os 9 .any (Rows.wordTensSpec.pre6 enc Try.prog Try.f9 Rows.wordTensRow.domain false) (Rows.wordTensSpec.post enc Try.prog Try.f9 false true false false) := by
  refine returnsInHanded_of_change (C := Try.checked) own started (by kernel_rfl) Try.func9
    (ChangeSpec.witness6 (enc := enc) (C := Try.checked) false ⟨#[], #[.int .u8 0, .int .u8 0], []⟩ 8 (by kernel_rfl) (by kernel_rfl) (by kernel_rfl) (by kernel_rfl)) ?_
  intro W base args ds gs before hval0 hW hcnd _
  have hval : ∀ (j : Nat) t v, Try.f9.params[j]? = some t → args[j]? = some v → Value.okWide Try.prog W .any base t v := hval0
  have hW' := hW
  obtain ⟨p, q, hA0, hV, rfl, hfz, hnd⟩ := hW
  have hA : DataW.TrodAll enc Try.prog W 0 (fun _ => true) true Try.f9.params.toList args.toList ds p := hA0
  rw [Try.params9] at hA hval
  obtain ⟨v0, vs0, d0, ds0, p0, q0, hargs, rfl, rfl, h0, r0⟩ := trodAll_cons hA
  obtain ⟨v1, vs1, d1, ds1, p1, q1, rfl, rfl, rfl, h1, r1⟩ := trodAll_cons r0
  obtain ⟨rfl, rfl, rfl⟩ := trodAll_nil r1
  obtain rfl : args = #[v0, v1] := by cases args; simp_all
  obtain ⟨rfl, rfl⟩ := trodVars_none hV
  obtain ⟨a0, rfl, rfl, rfl, w0⟩ := open_int Try.underlying5 (hval 0 5 v0 rfl rfl) h0
  obtain ⟨a1, rfl, rfl, rfl, w1⟩ := open_int Try.underlying5 (hval 1 5 v1 rfl rfl) h1
  clear hA0 hval0
  simp only [List.append_nil] at hW'
  refine (walk a0 a1 w0 w1 W).mono fun e W' ⟨he, hg⟩ => ?_
  subst he
  exact ⟨_, rfl, _, _, _, [], [], [], hW', (trodAll_cons_mk (shut_bool Try.underlying4 _) trodAll_mk0), (trodAll_cons_mk (shut_int Try.underlying5 w0) (trodAll_cons_mk (shut_int Try.underlying5 w1) trodAll_mk0)), rfl,
    hg.frame _, fun h => by cases h⟩

theorem over : Rows.wordTensRow.holds Try.pinned (OpenSpec.ofChange Rows.wordTensSpec) :=
  OpenClaim.holds_of_wide 9 Try.f9 rfl rfl rfl rfl rfl rfl rfl ⟨rfl, rfl, rfl, rfl, rfl⟩ rfl rfl rfl rfl rfl (by kernel_rfl) Try.func9 (by kernel_rfl)
    (of_decide_eq_true (by kernel_rfl)) (by unfold Func.isWrapper; first | (rw [if_pos (by decide +kernel)]; kernel_rfl) | (rw [if_neg (by decide +kernel)]; exact ⟨rfl, rfl⟩))
    (fun os started H enc _ => lifted os started H enc)

/-- ████ THE STATEMENT ████ -/
theorem proved : Rows.WordTensSaid :=
  over
#print axioms proved
end Go.Proofs.Ytpkiobnnpjimaaa.wordTens
