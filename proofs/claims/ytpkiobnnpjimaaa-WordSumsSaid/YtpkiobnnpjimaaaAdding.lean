/- The law WordSums returns true whatever two bytes and carry it is given, and leaves all memory that was there as it was: 'Rows.WordSumsSaid'. There is no condition. -/
import Derived.Test.YtpkiobnnpjimaaaAlive
import Derived.Test.YtpkiobnnpjimaaaForms
import Derived.Test.YtpkiobnnpjimaaaRows
import Derived.WalkKit
import Derived.ProofKit
import Derived.OpenShut
namespace Go.Proofs.Ytpkiobnnpjimaaa.wordSums
open Go.Proofs.WordMath
open Go.ChangeShapes Go.WideShapes Go.ChangeAt Go.RowKit
set_option linter.unusedVariables false      -- a walk need not use every 'w<i>' (that an integer argument fits its kind)

theorem own : ownKnob Try.prog.godebug = none := by kernel_rfl

/-! ### STEP 1: THE WALK: the Go text returns true. 'Grown w w'': the world has at most new blocks (Derived/RowKit3.lean). Part the cases AHEAD of 'go_enter' where a test parts the walk; take each callee by a contract of your own. -/
set_option maxHeartbeats 2000000 in
theorem walk (a0 : Int) (a1 : Int) (a2 : Bool) (w0 : (Lit.int .u8 a0).wf = true) (w1 : (Lit.int .u8 a1).wf = true) (w : World) :
    Calls Try.prog 4 #[.int .u8 a0, .int .u8 a1, .bool a2] w fun e w' => e = .returned (.bool true) ∧ Below w.heap.size w w' := by
  obtain ⟨l0, l1⟩ : 0 ≤ a0 ∧ a0 ≤ 255 := bounds_u8 w0
  obtain ⟨l2, l3⟩ : 0 ≤ a1 ∧ a1 ≤ 255 := bounds_u8 w1
  clear w0 w1
  go_enter Try.func4, Try.ntmps4
  go_wp2_with (first
    | (go_at_call 21; with_reducible refine (add_any a0 a1 a2 l0 l1 l2 l3 _).mono ?_; rintro e W1 ⟨rfl, hb1⟩; (have hg1 : Below w.heap.size w W1 := hb1); clear hb1)
    | (go_at_call 22; with_reducible refine (radd_any a0 a1 a2 l0 l1 l2 l3 _).mono ?_; rintro e W2 ⟨rfl, hb2⟩; (have hk1_2 := at_below hb2 (at_new W1 _)); (have hz1_2 : W1.heap.size < W2.heap.size := by have := hb2.size; simp at this; omega); (have hg2 : Below w.heap.size w W2 := below_step (hg1.alloc hg1.size _) hb2); clear hb2 hg1)
    | (go_at_call 23; with_reducible refine (sub_any a0 a1 a2 l0 l1 l2 l3 _).mono ?_; rintro e W3 ⟨rfl, hb3⟩; (have hk1_3 := at_below hb3 (at_old hk1_2)); clear hk1_2; (have hk2_3 := at_below hb3 (at_new W2 _)); (have hz2_3 : W2.heap.size < W3.heap.size := by have := hb3.size; simp at this; omega); (have hz1_3 : W1.heap.size < W3.heap.size := by omega); (have hg3 : Below w.heap.size w W3 := below_step (hg2.alloc hg2.size _) hb3); clear hb3 hg2)
    | (go_at_call 24; with_reducible refine (rsub_any a0 a1 a2 l0 l1 l2 l3 _).mono ?_; rintro e W4 ⟨rfl, hb4⟩; (have hk1_4 := at_below hb4 (at_old hk1_3)); clear hk1_3; (have hk2_4 := at_below hb4 (at_old hk2_3)); clear hk2_3; (have hk3_4 := at_below hb4 (at_new W3 _)); (have hz3_4 : W3.heap.size < W4.heap.size := by have := hb4.size; simp at this; omega); (have hz1_4 : W1.heap.size < W4.heap.size := by omega); (have hz2_4 : W2.heap.size < W4.heap.size := by omega); (have hg4 : Below w.heap.size w W4 := below_step (hg3.alloc hg3.size _) hb4); clear hb4 hg3))
  obtain ⟨_, _, _, _, _⟩ := (five hk1_4).1
  obtain ⟨_, _, _, _, _⟩ := (five hk2_4).1
  obtain ⟨_, _, _, _, _⟩ := (five hk3_4).1
  have hg5 := hg4.alloc hg4.size (.cells #[.bool (sB (a0 - a1 - bi a2 1 + 256)), .bool (zB (a0 - a1 - bi a2 1 + 256)), .bool (decide (15 < a0 % 16 + 15 - a1 % 16 + bi (!a2) 1)), .bool (pB (a0 - a1 - bi a2 1 + 256)), .bool (decide (a0 - a1 - bi a2 1 < 0))] 23)

  go_region_held3 (fun W' => Below w.heap.size w W' ∧ W'.cell? ⟨W1.heap.size, 0, none⟩ = some (.bool (sB (a0 + a1 + bi a2 1))) ∧ W'.cell? ⟨W1.heap.size, 1, none⟩ = some (.bool (zB (a0 + a1 + bi a2 1))) ∧ W'.cell? ⟨W1.heap.size, 2, none⟩ = some (.bool (decide (15 < a0 % 16 + a1 % 16 + bi a2 1))) ∧ W'.cell? ⟨W1.heap.size, 3, none⟩ = some (.bool (pB (a0 + a1 + bi a2 1))) ∧ W'.cell? ⟨W1.heap.size, 4, none⟩ = some (.bool (decide (255 < a0 + a1 + bi a2 1))) ∧ W'.cell? ⟨W2.heap.size, 0, none⟩ = some (.bool (sB (a0 + a1 + bi a2 1))) ∧ W'.cell? ⟨W2.heap.size, 1, none⟩ = some (.bool (zB (a0 + a1 + bi a2 1))) ∧ W'.cell? ⟨W2.heap.size, 2, none⟩ = some (.bool (decide (15 < a0 % 16 + a1 % 16 + bi a2 1))) ∧ W'.cell? ⟨W2.heap.size, 3, none⟩ = some (.bool (pB (a0 + a1 + bi a2 1))) ∧ W'.cell? ⟨W2.heap.size, 4, none⟩ = some (.bool (decide (255 < a0 + a1 + bi a2 1))) ∧ W'.cell? ⟨W3.heap.size, 0, none⟩ = some (.bool (sB (a0 - a1 - bi a2 1 + 256))) ∧ W'.cell? ⟨W3.heap.size, 1, none⟩ = some (.bool (zB (a0 - a1 - bi a2 1 + 256))) ∧ W'.cell? ⟨W3.heap.size, 2, none⟩ = some (.bool (decide (15 < a0 % 16 + 15 - a1 % 16 + bi (!a2) 1))) ∧ W'.cell? ⟨W3.heap.size, 3, none⟩ = some (.bool (pB (a0 - a1 - bi a2 1 + 256))) ∧ W'.cell? ⟨W3.heap.size, 4, none⟩ = some (.bool (decide (a0 - a1 - bi a2 1 < 0))) ∧ W'.cell? ⟨W4.heap.size, 0, none⟩ = some (.bool (sB (a0 - a1 - bi a2 1 + 256))) ∧ W'.cell? ⟨W4.heap.size, 1, none⟩ = some (.bool (zB (a0 - a1 - bi a2 1 + 256))) ∧ W'.cell? ⟨W4.heap.size, 2, none⟩ = some (.bool (decide (15 < a0 % 16 + 15 - a1 % 16 + bi (!a2) 1))) ∧ W'.cell? ⟨W4.heap.size, 3, none⟩ = some (.bool (pB (a0 - a1 - bi a2 1 + 256))) ∧ W'.cell? ⟨W4.heap.size, 4, none⟩ = some (.bool (decide (a0 - a1 - bi a2 1 < 0))))
    (first | (go_split_ands; exact ⟨below_step (by assumption) hbb, cell_later hbb (by assumption), cell_later hbb (by assumption), cell_later hbb (by assumption), cell_later hbb (by assumption), cell_later hbb (by assumption), cell_later hbb (by assumption), cell_later hbb (by assumption), cell_later hbb (by assumption), cell_later hbb (by assumption), cell_later hbb (by assumption), cell_later hbb (by assumption), cell_later hbb (by assumption), cell_later hbb (by assumption), cell_later hbb (by assumption), cell_later hbb (by assumption), cell_later hbb (by assumption), cell_later hbb (by assumption), cell_later hbb (by assumption), cell_later hbb (by assumption), cell_later hbb (by assumption)⟩) | ((repeat' apply And.intro) <;> first | (with_reducible refine Below.drew ?_; assumption) | go_keep))
    ((first | (go_at_call 15; refine (back_any _ _ _ _ _ _).mono ?_; rintro e Wb ⟨rfl, hbb⟩) | (go_at_call 20; refine (alive_any _).mono ?_; rintro e Wb ⟨rfl, hbb⟩)))
  simp only [Exit.then]
  go_step
  go_step
  go_step
  go_ret
  go_split_ands
  exact ⟨rfl, by assumption⟩

/-! ### THE ROW's STEP: WRITTEN OUT: LEAVE IT -/
set_option maxRecDepth 100000 in
theorem lifted (os : Os) (started : os.Started) (H : Type) (enc : TypeId × Value → H) :
    ReturnsInHanded {} Try.checked os 4 .any (Rows.wordSumsSpec.pre6 enc Try.prog Try.f4 Rows.wordSumsRow.domain false) (Rows.wordSumsSpec.post enc Try.prog Try.f4 false true false false) := by
  refine returnsInHanded_of_change (C := Try.checked) own started (by kernel_rfl) Try.func4
    (ChangeSpec.witness6 (enc := enc) (C := Try.checked) false ⟨#[], #[.int .u8 0, .int .u8 0, .bool false], []⟩ 8 (by kernel_rfl) (by kernel_rfl) (by kernel_rfl) (by kernel_rfl)) ?_
  intro W base args ds gs before hval0 hW hcnd _
  have hval : ∀ (j : Nat) t v, Try.f4.params[j]? = some t → args[j]? = some v → Value.okWide Try.prog W .any base t v := hval0
  have hW' := hW
  obtain ⟨p, q, hA0, hV, rfl, hfz, hnd⟩ := hW
  have hA : DataW.TrodAll enc Try.prog W 0 (fun _ => true) true Try.f4.params.toList args.toList ds p := hA0
  rw [Try.params4] at hA hval
  obtain ⟨v0, vs0, d0, ds0, p0, q0, hargs, rfl, rfl, h0, r0⟩ := trodAll_cons hA
  obtain ⟨v1, vs1, d1, ds1, p1, q1, rfl, rfl, rfl, h1, r1⟩ := trodAll_cons r0
  obtain ⟨v2, vs2, d2, ds2, p2, q2, rfl, rfl, rfl, h2, r2⟩ := trodAll_cons r1
  obtain ⟨rfl, rfl, rfl⟩ := trodAll_nil r2
  obtain rfl : args = #[v0, v1, v2] := by cases args; simp_all
  obtain ⟨rfl, rfl⟩ := trodVars_none hV
  obtain ⟨a0, rfl, rfl, rfl, w0⟩ := open_int Try.underlying5 (hval 0 5 v0 rfl rfl) h0
  obtain ⟨a1, rfl, rfl, rfl, w1⟩ := open_int Try.underlying5 (hval 1 5 v1 rfl rfl) h1
  obtain ⟨a2, rfl, rfl, rfl⟩ := open_bool Try.underlying4 (hval 2 4 v2 rfl rfl) h2
  clear hA0 hval0
  simp only [List.append_nil] at hW'
  refine (walk a0 a1 a2 w0 w1 W).mono fun e W' ⟨he, hg⟩ => ?_
  subst he
  exact ⟨_, rfl, _, _, _, [], [], [], hW', (trodAll_cons_mk (shut_bool Try.underlying4 _) trodAll_mk0), (trodAll_cons_mk (shut_int Try.underlying5 w0) (trodAll_cons_mk (shut_int Try.underlying5 w1) (trodAll_cons_mk (shut_bool Try.underlying4 _) trodAll_mk0))), rfl,
    hg.frame _, fun h => by cases h⟩

theorem over : Rows.wordSumsRow.holds Try.pinned (OpenSpec.ofChange Rows.wordSumsSpec) :=
  OpenClaim.holds_of_wide 4 Try.f4 rfl rfl rfl rfl rfl rfl rfl ⟨rfl, rfl, rfl, rfl, rfl⟩ rfl rfl rfl rfl rfl (by kernel_rfl) Try.func4 (by kernel_rfl)
    (of_decide_eq_true (by kernel_rfl)) (by unfold Func.isWrapper; first | (rw [if_pos (by decide +kernel)]; kernel_rfl) | (rw [if_neg (by decide +kernel)]; exact ⟨rfl, rfl⟩))
    (fun os started H enc _ => lifted os started H enc)

/-- ████ THE STATEMENT ████ -/
theorem proved : Rows.WordSumsSaid :=
  over
#print axioms proved
end Go.Proofs.Ytpkiobnnpjimaaa.wordSums
