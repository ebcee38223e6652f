/- The law WordWide returns true whatever two words it is given, and leaves all memory that was there as it was: 'Rows.WordWideSaid'. There is no condition. -/
import Derived.Test.YtpkiobnnpjimaaaAlive
import Derived.Test.YtpkiobnnpjimaaaTurns
import Derived.Test.YtpkiobnnpjimaaaRows
import Derived.WalkKit
import Derived.ProofKit
import Derived.OpenShut
namespace Go.Proofs.Ytpkiobnnpjimaaa.wordWide
open Go.Proofs.WordMath
open Go.ChangeShapes Go.WideShapes Go.ChangeAt Go.RowKit
set_option linter.unusedVariables false      -- a walk need not use every 'w<i>' (that an integer argument fits its kind)

theorem own : ownKnob Try.prog.godebug = none := by kernel_rfl

/-! ### STEP 1: THE WALK: the Go text returns true. 'Grown w w'': the world has at most new blocks (Derived/RowKit3.lean). Part the cases AHEAD of 'go_enter' where a test parts the walk; take each callee by a contract of your own. -/
theorem u16_bd {a : Int} (h : (Lit.int .u16 a).wf = true) : 0 ≤ a ∧ a ≤ 65535 := bounds_u16 h
theorem low_half (a b : Int) (a0 : 0 ≤ a) (a1 : a ≤ 65535) (b0 : 0 ≤ b) (b1 : b ≤ 65535) (w : World) : Calls Try.prog 21 #[.int .u8 (a % 256), .int .u8 (b % 256), .bool false] w fun e w' =>
    (∃ s z h p, e = .returned (.tuple #[.int .u8 ((a + b) % 256), .agg #[.bool s, .bool z, .bool h, .bool p, .bool (decide (255 < a % 256 + b % 256))]])) ∧ Below w.heap.size w w' :=
  (add_any (a % 256) (b % 256) false (by omega) (by omega) (by omega) (by omega) w).mono fun _ _ ⟨he, hb⟩ => ⟨⟨_, _, _, _, he.trans (ret_told (by unfold lowB bi; simp only [Bool.false_eq_true, if_false]; omega) rfl rfl rfl rfl (by simp [bi]))⟩, hb⟩
theorem high_half (a b : Int) (a0 : 0 ≤ a) (a1 : a ≤ 65535) (b0 : 0 ≤ b) (b1 : b ≤ 65535) (w : World) : Calls Try.prog 21 #[.int .u8 (a / 256), .int .u8 (b / 256), .bool (decide (255 < a % 256 + b % 256))] w fun e w' =>
    (∃ s z h p, e = .returned (.tuple #[.int .u8 ((a + b) % 65536 / 256), .agg #[.bool s, .bool z, .bool h, .bool p, .bool (decide (65535 < a + b))]])) ∧ Below w.heap.size w w' :=
  (add_any (a / 256) (b / 256) _ (by omega) (by omega) (by omega) (by omega) w).mono fun _ _ ⟨he, hb⟩ => ⟨⟨_, _, _, _, he.trans (ret_told (by unfold lowB bi; simp only [decide_eq_true_eq]; split <;> omega) rfl rfl rfl rfl (by rw [Bool.eq_iff_iff]; unfold bi; simp only [decide_eq_true_eq]; split <;> omega))⟩, hb⟩
set_option maxHeartbeats 1000000 in
theorem walk (a0 : Int) (a1 : Int) (w0 : (Lit.int .u16 a0).wf = true) (w1 : (Lit.int .u16 a1).wf = true) (w : World) :
    Calls Try.prog 11 #[.int .u16 a0, .int .u16 a1] w fun e w' => e = .returned (.bool true) ∧ Below w.heap.size w w' := by
  obtain ⟨l0, l1⟩ := u16_bd w0
  obtain ⟨l2, l3⟩ := u16_bd w1
  clear w0 w1
  have hx : ((a0 + a1) % 65536 == (a0 + a1) % 65536 / 256 * 256 + (a0 + a1) % 256) = true := by rw [beq_iff_eq]; omega
  go_enter Try.func11, Try.ntmps11
  go_wp2_with (first
    | (go_at_call 39; refine (add16_any a0 a1 l0 l1 l2 l3 _).mono ?_; rintro e W1 ⟨rfl, hb1⟩)
    | (go_at_call 21; with_reducible refine (low_half a0 a1 l0 l1 l2 l3 _).mono ?_; rintro e W2 ⟨⟨s, z, h, p, rfl⟩, hb2⟩; (have hg2 : Below w.heap.size w W2 := below_step hb1 hb2); clear hb1 hb2)
    | (go_at_call 21; with_reducible refine (high_half a0 a1 l0 l1 l2 l3 _).mono ?_; rintro e W3 ⟨⟨s', z', h', p', rfl⟩, hb3⟩; (have hblk := at_below hb3 (at_new W2 _)); obtain ⟨⟨_, _, _, _, _⟩, _, _, _, _, _⟩ := five hblk; (have hz3 : W2.heap.size < W3.heap.size := by have := hb3.size; simp at this; omega); (have hg3 : Below w.heap.size w W3 := below_step (hg2.alloc hg2.size _) hb3); clear hb3)
    | (go_at_call 20; refine (alive_any _).mono ?_; rintro e W4 ⟨rfl, hb4⟩; (have hg4 : Below w.heap.size w W4 := below_step (hg3.alloc hg3.size _) hb4); clear hb4))
  go_ret
  exact ⟨rfl, hg4⟩

/-! ### THE ROW's STEP: WRITTEN OUT: LEAVE IT -/
set_option maxRecDepth 100000 in
theorem lifted (os : Os) (started : os.Started) (H : Type) (enc : TypeId × Value → H) :
    ReturnsInHanded {} Try.checked os 11 .any (Rows.wordWideSpec.pre6 enc Try.prog Try.f11 Rows.wordWideRow.domain false) (Rows.wordWideSpec.post enc Try.prog Try.f11 false true false false) := by
  refine returnsInHanded_of_change (C := Try.checked) own started (by kernel_rfl) Try.func11
    (ChangeSpec.witness6 (enc := enc) (C := Try.checked) false ⟨#[], #[.int .u16 0, .int .u16 0], []⟩ 8 (by kernel_rfl) (by kernel_rfl) (by kernel_rfl) (by kernel_rfl)) ?_
  intro W base args ds gs before hval0 hW hcnd _
  have hval : ∀ (j : Nat) t v, Try.f11.params[j]? = some t → args[j]? = some v → Value.okWide Try.prog W .any base t v := hval0
  have hW' := hW
  obtain ⟨p, q, hA0, hV, rfl, hfz, hnd⟩ := hW
  have hA : DataW.TrodAll enc Try.prog W 0 (fun _ => true) true Try.f11.params.toList args.toList ds p := hA0
  rw [Try.params11] at hA hval
  obtain ⟨v0, vs0, d0, ds0, p0, q0, hargs, rfl, rfl, h0, r0⟩ := trodAll_cons hA
  obtain ⟨v1, vs1, d1, ds1, p1, q1, rfl, rfl, rfl, h1, r1⟩ := trodAll_cons r0
  obtain ⟨rfl, rfl, rfl⟩ := trodAll_nil r1
  obtain rfl : args = #[v0, v1] := by cases args; simp_all
  obtain ⟨rfl, rfl⟩ := trodVars_none hV
  obtain ⟨a0, rfl, rfl, rfl, w0⟩ := open_int Try.underlying45 (hval 0 45 v0 rfl rfl) h0
  obtain ⟨a1, rfl, rfl, rfl, w1⟩ := open_int Try.underlying45 (hval 1 45 v1 rfl rfl) h1
  clear hA0 hval0
  simp only [List.append_nil] at hW'
  refine (walk a0 a1 w0 w1 W).mono fun e W' ⟨he, hg⟩ => ?_
  subst he
  exact ⟨_, rfl, _, _, _, [], [], [], hW', trodAll_cons_mk (shut_bool Try.underlying4 _) trodAll_mk0, trodAll_cons_mk (shut_int Try.underlying45 w0) (trodAll_cons_mk (shut_int Try.underlying45 w1) trodAll_mk0), rfl,
    hg.frame _, fun h => by cases h⟩

theorem over : Rows.wordWideRow.holds Try.pinned (OpenSpec.ofChange Rows.wordWideSpec) :=
  OpenClaim.holds_of_wide 11 Try.f11 rfl rfl rfl rfl rfl rfl rfl ⟨rfl, rfl, rfl, rfl, rfl⟩ rfl rfl rfl rfl rfl (by kernel_rfl) Try.func11 (by kernel_rfl)
    (of_decide_eq_true (by kernel_rfl)) (by unfold Func.isWrapper; first | (rw [if_pos (by decide +kernel)]; kernel_rfl) | (rw [if_neg (by decide +kernel)]; exact ⟨rfl, rfl⟩))
    (fun os started H enc _ => lifted os started H enc)

/-- ████ THE STATEMENT ████ -/
theorem proved : Rows.WordWideSaid :=
  over
#print axioms proved
end Go.Proofs.Ytpkiobnnpjimaaa.wordWide
