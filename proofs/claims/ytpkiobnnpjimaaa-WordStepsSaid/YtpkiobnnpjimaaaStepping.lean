/- The law WordSteps returns true whatever byte and flags it is given, and leaves all memory that was there as it was: 'Rows.WordStepsSaid'. There is no condition. -/
import Derived.Test.YtpkiobnnpjimaaaAlive
import Derived.Test.YtpkiobnnpjimaaaTens
import Derived.Test.YtpkiobnnpjimaaaSteps
import Derived.Test.YtpkiobnnpjimaaaForms
import Derived.Test.YtpkiobnnpjimaaaFlags
import Derived.WalkKit
import Derived.ProofKit
import Derived.OpenShut
namespace Go.Proofs.Ytpkiobnnpjimaaa.wordSteps
open Go.Proofs.WordMath
open Go.ChangeShapes Go.WideShapes Go.ChangeAt Go.RowKit
set_option linter.unusedVariables false      -- a walk need not use every 'w<i>' (that an integer argument fits its kind)

theorem own : ownKnob Try.prog.godebug = none := by kernel_rfl

/-! ### STEP 1: THE WALK: the Go text returns true. 'Grown w w'': the world has at most new blocks (Derived/RowKit3.lean). Part the cases AHEAD of 'go_enter' where a test parts the walk; take each callee by a contract of your own. -/
set_option maxRecDepth 100000 in
set_option maxHeartbeats 4000000 in
theorem walk (a : Int) (s z h p c : Bool) (w0 : (Lit.int .u8 a).wf = true) (w : World) :
    Calls Try.prog 6 #[.int .u8 a, .agg #[.bool s, .bool z, .bool h, .bool p, .bool c]] w fun e w' => e = .returned (.bool true) ∧ Below w.heap.size w w' := by
  obtain ⟨l0, l1⟩ : 0 ≤ a ∧ a ≤ 255 := bounds_u8 w0
  clear w0
  obtain ⟨low, hlow⟩ : ∃ low : Int, low = 6 ∧ (9 < a % 16 ∨ h = true) ∨ low = 0 ∧ a % 16 ≤ 9 ∧ h = false := by
    by_cases h1 : 9 < a % 16 ∨ h = true
    · exact ⟨6, .inl ⟨rfl, h1⟩⟩
    · exact ⟨0, .inr ⟨rfl, by omega, by cases h <;> simp_all⟩⟩
  obtain ⟨k, hk⟩ : ∃ k : Bool, k = true ∧ (159 < a + low ∨ c = true) ∨ k = false ∧ a + low ≤ 159 ∧ c = false := by
    by_cases h1 : 159 < a + low ∨ c = true
    · exact ⟨true, .inl ⟨rfl, h1⟩⟩
    · exact ⟨false, .inr ⟨rfl, by omega, by cases c <;> simp_all⟩⟩
  go_enter Try.func6, Try.ntmps6
  go_wp2_with (first
    | (go_at_call 13; with_reducible refine (own_any s z h p c _).mono ?_; rintro e X1 ⟨rfl, hb1⟩; (have hk0_1 := at_below hb1 (at_new w _)); (have hs1 : w.heap.size < X1.heap.size := by have := hb1.size; simp at this; omega); (have hg1 : Below w.heap.size w X1 := below_step ((Below.refl _ _).alloc (Nat.le_refl _) _) hb1); clear hb1)
    | (go_at_call 31; with_reducible refine (inc_any a s z h p c l0 l1 _).mono ?_; rintro e X2 ⟨rfl, hb2⟩; (have hk0_2 := at_below hb2 (hk0_1)); clear hk0_1; (have hs2 : X1.heap.size ≤ X2.heap.size := hb2.size); (have hz0_2 : w.heap.size < X2.heap.size := by omega); (have hg2 : Below w.heap.size w X2 := below_step hg1 hb2); clear hb2; obtain ⟨_, _, _, _, _⟩ := (five hk0_2).1)
    | (go_at_call 13; with_reducible refine (own_any s z h p c _).mono ?_; rintro e X3 ⟨rfl, hb3⟩; (have hk0_3 := at_below hb3 (at_old hk0_2)); clear hk0_2; (have hk1_3 := at_below hb3 (at_new X2 _)); (have hs3 : X2.heap.size < X3.heap.size := by have := hb3.size; simp at this; omega); (have hz0_3 : w.heap.size < X3.heap.size := by omega); (have hg3 : Below w.heap.size w X3 := below_step (hg2.alloc hg2.size _) hb3); clear hb3)
    | (go_at_call 32; with_reducible refine (dec_any a s z h p c l0 l1 _).mono ?_; rintro e X4 ⟨rfl, hb4⟩; (have hk0_4 := at_below hb4 (hk0_3)); clear hk0_3; (have hk1_4 := at_below hb4 (hk1_3)); clear hk1_3; (have hs4 : X3.heap.size ≤ X4.heap.size := hb4.size); (have hz0_4 : w.heap.size < X4.heap.size := by omega); (have hz1_4 : X2.heap.size < X4.heap.size := by omega); (have hg4 : Below w.heap.size w X4 := below_step hg3 hb4); clear hb4; obtain ⟨_, _, _, _, _⟩ := (five hk0_4).1)
    | (go_at_call 13; with_reducible refine (own_any s z h p c _).mono ?_; rintro e X5 ⟨rfl, hb5⟩; (have hk0_5 := at_below hb5 (at_old hk0_4)); clear hk0_4; (have hk1_5 := at_below hb5 (at_old hk1_4)); clear hk1_4; (have hk2_5 := at_below hb5 (at_new X4 _)); (have hs5 : X4.heap.size < X5.heap.size := by have := hb5.size; simp at this; omega); (have hz0_5 : w.heap.size < X5.heap.size := by omega); (have hz1_5 : X2.heap.size < X5.heap.size := by omega); (have hg5 : Below w.heap.size w X5 := below_step (hg4.alloc hg4.size _) hb5); clear hb5)
    | (go_at_call 33; with_reducible refine (daa_any a low s z h p c k l0 l1 hlow hk _).mono ?_; rintro e X6 ⟨rfl, hb6⟩; (have hk0_6 := at_below hb6 (hk0_5)); clear hk0_5; (have hk1_6 := at_below hb6 (hk1_5)); clear hk1_5; (have hk2_6 := at_below hb6 (hk2_5)); clear hk2_5; (have hs6 : X5.heap.size ≤ X6.heap.size := hb6.size); (have hz0_6 : w.heap.size < X6.heap.size := by omega); (have hz1_6 : X2.heap.size < X6.heap.size := by omega); (have hz2_6 : X4.heap.size < X6.heap.size := by omega); (have hg6 : Below w.heap.size w X6 := below_step hg5 hb6); clear hb6; obtain ⟨_, _, _, _, _⟩ := (five hk0_6).1)
    | (go_at_call 34; with_reducible refine (rinc_any a s z h p c l0 l1 _).mono ?_; rintro e X7 ⟨rfl, hb7⟩; (have hk0_7 := at_below hb7 (at_old hk0_6)); clear hk0_6; (have hk1_7 := at_below hb7 (at_old hk1_6)); clear hk1_6; (have hk2_7 := at_below hb7 (at_old hk2_6)); clear hk2_6; (have hk3_7 := at_below hb7 (at_new X6 _)); (have hs7 : X6.heap.size < X7.heap.size := by have := hb7.size; simp at this; omega); (have hz0_7 : w.heap.size < X7.heap.size := by omega); (have hz1_7 : X2.heap.size < X7.heap.size := by omega); (have hz2_7 : X4.heap.size < X7.heap.size := by omega); (have hg7 : Below w.heap.size w X7 := below_step (hg6.alloc hg6.size _) hb7); clear hb7; obtain ⟨_, _, _, _, _⟩ := (five hk0_7).1)
    | (go_at_call 35; with_reducible refine (rdec_any a s z h p c l0 l1 _).mono ?_; rintro e X8 ⟨rfl, hb8⟩; (have hk0_8 := at_below hb8 (at_old hk0_7)); clear hk0_7; (have hk1_8 := at_below hb8 (at_old hk1_7)); clear hk1_7; (have hk2_8 := at_below hb8 (at_old hk2_7)); clear hk2_7; (have hk3_8 := at_below hb8 (at_old hk3_7)); clear hk3_7; (have hk4_8 := at_below hb8 (at_new X7 _)); (have hs8 : X7.heap.size < X8.heap.size := by have := hb8.size; simp at this; omega); (have hz0_8 : w.heap.size < X8.heap.size := by omega); (have hz1_8 : X2.heap.size < X8.heap.size := by omega); (have hz2_8 : X4.heap.size < X8.heap.size := by omega); (have hz3_8 : X6.heap.size < X8.heap.size := by omega); (have hg8 : Below w.heap.size w X8 := below_step (hg7.alloc hg7.size _) hb8); clear hb8; obtain ⟨_, _, _, _, _⟩ := (five hk0_8).1)
    | (go_at_call 36; with_reducible refine (rdaa_any a low s z h p c k l0 l1 hlow hk _).mono ?_; rintro e X9 ⟨rfl, hb9⟩; (have hk0_9 := at_below hb9 (at_old hk0_8)); clear hk0_8; (have hk1_9 := at_below hb9 (at_old hk1_8)); clear hk1_8; (have hk2_9 := at_below hb9 (at_old hk2_8)); clear hk2_8; (have hk3_9 := at_below hb9 (at_old hk3_8)); clear hk3_8; (have hk4_9 := at_below hb9 (at_old hk4_8)); clear hk4_8; (have hk5_9 := at_below hb9 (at_new X8 _)); (have hs9 : X8.heap.size < X9.heap.size := by have := hb9.size; simp at this; omega); (have hz0_9 : w.heap.size < X9.heap.size := by omega); (have hz1_9 : X2.heap.size < X9.heap.size := by omega); (have hz2_9 : X4.heap.size < X9.heap.size := by omega); (have hz3_9 : X6.heap.size < X9.heap.size := by omega); (have hz4_9 : X7.heap.size < X9.heap.size := by omega); (have hg9 : Below w.heap.size w X9 := below_step (hg8.alloc hg8.size _) hb9); clear hb9; obtain ⟨_, _, _, _, _⟩ := (five hk1_9).1; obtain ⟨_, _, _, _, _⟩ := (five hk2_9).1; obtain ⟨_, _, _, _, _⟩ := (five hk3_9).1; obtain ⟨_, _, _, _, _⟩ := (five hk4_9).1; obtain ⟨_, _, _, _, _⟩ := (five hk5_9).1))
  have hg10 := hg9.alloc hg9.size (.cells #[.bool (sB (a + low + bi k 96)), .bool (zB (a + low + bi k 96)), .bool (decide (15 < a % 16 + low)), .bool (pB (a + low + bi k 96)), .bool k] 23)
  go_region_held3 (fun W' => Below w.heap.size w W' ∧ W'.cell? ⟨X2.heap.size, 0, none⟩ = some (.bool (sB (a + 1))) ∧ W'.cell? ⟨X2.heap.size, 1, none⟩ = some (.bool (zB (a + 1))) ∧ W'.cell? ⟨X2.heap.size, 2, none⟩ = some (.bool (decide (14 < a % 16))) ∧ W'.cell? ⟨X2.heap.size, 3, none⟩ = some (.bool (pB (a + 1))) ∧ W'.cell? ⟨X2.heap.size, 4, none⟩ = some (.bool c) ∧ W'.cell? ⟨X4.heap.size, 0, none⟩ = some (.bool (sB (a + 255))) ∧ W'.cell? ⟨X4.heap.size, 1, none⟩ = some (.bool (zB (a + 255))) ∧ W'.cell? ⟨X4.heap.size, 2, none⟩ = some (.bool (decide (0 < a % 16))) ∧ W'.cell? ⟨X4.heap.size, 3, none⟩ = some (.bool (pB (a + 255))) ∧ W'.cell? ⟨X4.heap.size, 4, none⟩ = some (.bool c) ∧ W'.cell? ⟨X6.heap.size, 0, none⟩ = some (.bool (sB (a + low + bi k 96))) ∧ W'.cell? ⟨X6.heap.size, 1, none⟩ = some (.bool (zB (a + low + bi k 96))) ∧ W'.cell? ⟨X6.heap.size, 2, none⟩ = some (.bool (decide (15 < a % 16 + low))) ∧ W'.cell? ⟨X6.heap.size, 3, none⟩ = some (.bool (pB (a + low + bi k 96))) ∧ W'.cell? ⟨X6.heap.size, 4, none⟩ = some (.bool k) ∧ W'.cell? ⟨X7.heap.size, 0, none⟩ = some (.bool (sB (a + 1))) ∧ W'.cell? ⟨X7.heap.size, 1, none⟩ = some (.bool (zB (a + 1))) ∧ W'.cell? ⟨X7.heap.size, 2, none⟩ = some (.bool (decide (14 < a % 16))) ∧ W'.cell? ⟨X7.heap.size, 3, none⟩ = some (.bool (pB (a + 1))) ∧ W'.cell? ⟨X7.heap.size, 4, none⟩ = some (.bool c) ∧ W'.cell? ⟨X8.heap.size, 0, none⟩ = some (.bool (sB (a + 255))) ∧ W'.cell? ⟨X8.heap.size, 1, none⟩ = some (.bool (zB (a + 255))) ∧ W'.cell? ⟨X8.heap.size, 2, none⟩ = some (.bool (decide (0 < a % 16))) ∧ W'.cell? ⟨X8.heap.size, 3, none⟩ = some (.bool (pB (a + 255))) ∧ W'.cell? ⟨X8.heap.size, 4, none⟩ = some (.bool c) ∧ W'.cell? ⟨X9.heap.size, 0, none⟩ = some (.bool (sB (a + low + bi k 96))) ∧ W'.cell? ⟨X9.heap.size, 1, none⟩ = some (.bool (zB (a + low + bi k 96))) ∧ W'.cell? ⟨X9.heap.size, 2, none⟩ = some (.bool (decide (15 < a % 16 + low))) ∧ W'.cell? ⟨X9.heap.size, 3, none⟩ = some (.bool (pB (a + low + bi k 96))) ∧ W'.cell? ⟨X9.heap.size, 4, none⟩ = some (.bool k))
    (first | (go_split_ands; exact ⟨below_step (by assumption) hbb, cell_later hbb (by assumption), cell_later hbb (by assumption), cell_later hbb (by assumption), cell_later hbb (by assumption), cell_later hbb (by assumption), cell_later hbb (by assumption), cell_later hbb (by assumption), cell_later hbb (by assumption), cell_later hbb (by assumption), cell_later hbb (by assumption), cell_later hbb (by assumption), cell_later hbb (by assumption), cell_later hbb (by assumption), cell_later hbb (by assumption), cell_later hbb (by assumption), cell_later hbb (by assumption), cell_later hbb (by assumption), cell_later hbb (by assumption), cell_later hbb (by assumption), cell_later hbb (by assumption), cell_later hbb (by assumption), cell_later hbb (by assumption), cell_later hbb (by assumption), cell_later hbb (by assumption), cell_later hbb (by assumption), cell_later hbb (by assumption), cell_later hbb (by assumption), cell_later hbb (by assumption), cell_later hbb (by assumption), cell_later hbb (by assumption)⟩) | ((repeat' apply And.intro) <;> first | (with_reducible refine Below.drew ?_; assumption) | go_keep))
    ((first | (go_at_call 15; refine (back_any _ _ _ _ _ _).mono ?_; rintro e Wb ⟨rfl, hbb⟩) | (go_at_call 20; refine (alive_any _).mono ?_; rintro e Wb ⟨rfl, hbb⟩)))
  simp only [Exit.then]
  go_step
  go_step
  go_step
  go_ret
  go_split_ands
  exact ⟨rfl, by assumption⟩

/-! ### THE ROW's STEP: WRITTEN OUT: LEAVE IT -/
set_option maxRecDepth 100000 in
theorem lifted (os : Os) (started : os.Started) (H : Type) (enc : TypeId × Value → H) :
    ReturnsInHanded {} Try.checked os 6 .any (Rows.wordStepsSpec.pre6 enc Try.prog Try.f6 Rows.wordStepsRow.domain false) (Rows.wordStepsSpec.post enc Try.prog Try.f6 false true false false) := by
  refine returnsInHanded_of_change (C := Try.checked) own started (by kernel_rfl) Try.func6
    (ChangeSpec.witness6 (enc := enc) (C := Try.checked) false ⟨#[], #[.int .u8 0, .agg #[.bool false, .bool false, .bool false, .bool false, .bool false]], []⟩ 8 (by kernel_rfl) (by kernel_rfl) (by kernel_rfl) (by kernel_rfl)) ?_
  intro W base args ds gs before hval0 hW hcnd _
  have hval : ∀ (j : Nat) t v, Try.f6.params[j]? = some t → args[j]? = some v → Value.okWide Try.prog W .any base t v := hval0
  have hW' := hW
  obtain ⟨p, q, hA0, hV, rfl, hfz, hnd⟩ := hW
  have hA : DataW.TrodAll enc Try.prog W 0 (fun _ => true) true Try.f6.params.toList args.toList ds p := hA0
  rw [Try.params6] at hA hval
  obtain ⟨v0, vs0, d0, ds0, p0, q0, hargs, rfl, rfl, h0, r0⟩ := trodAll_cons hA
  obtain ⟨v1, vs1, d1, ds1, p1, q1, rfl, rfl, rfl, h1, r1⟩ := trodAll_cons r0
  obtain ⟨rfl, rfl, rfl⟩ := trodAll_nil r1
  obtain rfl : args = #[v0, v1] := by cases args; simp_all
  obtain ⟨rfl, rfl⟩ := trodVars_none hV
  obtain ⟨a0, rfl, rfl, rfl, w0⟩ := open_int Try.underlying5 (hval 0 5 v0 rfl rfl) h0
  obtain ⟨s, z, h, p, c, rfl, rfl, rfl⟩ := open_flags (hval 1 23 v1 rfl rfl) h1
  clear hA0 hval0
  simp only [List.append_nil] at hW'
  refine (walk a0 s z h p c w0 W).mono fun e W' ⟨he, hg⟩ => ?_
  subst he
  exact ⟨_, rfl, _, _, _, [], [], [], hW', trodAll_cons_mk (shut_bool Try.underlying4 _) trodAll_mk0, trodAll_cons_mk (shut_int Try.underlying5 w0) (trodAll_cons_mk (shut_flags s z h p c) trodAll_mk0), rfl,
    hg.frame _, fun h => by cases h⟩

theorem over : Rows.wordStepsRow.holds Try.pinned (OpenSpec.ofChange Rows.wordStepsSpec) :=
  OpenClaim.holds_of_wide 6 Try.f6 rfl rfl rfl rfl rfl rfl rfl ⟨rfl, rfl, rfl, rfl, rfl⟩ rfl rfl rfl rfl rfl (by kernel_rfl) Try.func6 (by kernel_rfl)
    (of_decide_eq_true (by kernel_rfl)) (by unfold Func.isWrapper; first | (rw [if_pos (by decide +kernel)]; kernel_rfl) | (rw [if_neg (by decide +kernel)]; exact ⟨rfl, rfl⟩))
    (fun os started H enc _ => lifted os started H enc)

/-- ████ THE STATEMENT ████ -/
theorem proved : Rows.WordStepsSaid :=
  over
#print axioms proved
end Go.Proofs.Ytpkiobnnpjimaaa.wordSteps
