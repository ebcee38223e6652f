/- The law WordBytes returns true whatever flags and byte it is given, and leaves all memory that was there as it was: 'Rows.WordBytesSaid'. There is no condition. -/
import Derived.Test.YtpkiobnnpjimaaaAlive
import Derived.Test.YtpkiobnnpjimaaaPsw
import Derived.Test.YtpkiobnnpjimaaaFlags
import Derived.WalkKit
import Derived.ProofKit
import Derived.OpenShut
namespace Go.Proofs.Ytpkiobnnpjimaaa.wordBytes
open Go.Proofs.WordMath
open Go.ChangeShapes Go.WideShapes Go.ChangeAt Go.RowKit
set_option linter.unusedVariables false      -- a walk need not use every 'w<i>' (that an integer argument fits its kind)

theorem own : ownKnob Try.prog.godebug = none := by kernel_rfl

/-! ### STEP 1: THE WALK: the Go text returns true. 'Grown w w'': the world has at most new blocks (Derived/RowKit3.lean). Part the cases AHEAD of 'go_enter' where a test parts the walk; take each callee by a contract of your own. -/
set_option maxRecDepth 100000 in
set_option maxHeartbeats 4000000 in
theorem walk (s z h p c : Bool) (b : Int) (w0 : (Lit.int .u8 b).wf = true) (w : World) :
    Calls Try.prog 3 #[.agg #[.bool s, .bool z, .bool h, .bool p, .bool c], .int .u8 b] w fun e w' => e = .returned (.bool true) ∧ Below w.heap.size w w' := by
  obtain ⟨l0, l1⟩ : 0 ≤ b ∧ b ≤ 255 := bounds_u8 w0
  clear w0
  go_enter Try.func3, Try.ntmps3
  go_wp2_with fail
  have hg0 : Below w.heap.size w (w.alloc (.cells #[.bool s, .bool z, .bool h, .bool p, .bool c] 23)) := (Below.refl _ _).alloc (Nat.le_refl _) _
  go_region_held3 (fun W' => Below w.heap.size w W' ∧ W'.cell? ⟨w.heap.size, 0, none⟩ = some (.bool s) ∧ W'.cell? ⟨w.heap.size, 1, none⟩ = some (.bool z) ∧ W'.cell? ⟨w.heap.size, 2, none⟩ = some (.bool h) ∧ W'.cell? ⟨w.heap.size, 3, none⟩ = some (.bool p) ∧ W'.cell? ⟨w.heap.size, 4, none⟩ = some (.bool c))
    (first | (go_split_ands; exact ⟨below_step (by assumption) hbb, cell_later hbb (by assumption), cell_later hbb (by assumption), cell_later hbb (by assumption), cell_later hbb (by assumption), cell_later hbb (by assumption)⟩) | ((repeat' apply And.intro) <;> first | (with_reducible refine Below.drew ?_; assumption) | go_keep))
    ((first | (go_at_call 13; (with_reducible refine (own_any s z h p c _).mono ?_); rintro e Wb ⟨rfl, hbb⟩) | (go_at_call 12; (with_reducible refine (psw_any s z h p c _).mono ?_); rintro e Wb ⟨rfl, hbb⟩) | (go_at_call 14; (with_reducible refine (rpsw_any s z h p c _).mono ?_); rintro e Wb ⟨rfl, hbb⟩) | (go_at_call 16; (with_reducible refine (of_psw s z h p c _).mono ?_); rintro e Wb ⟨rfl, hbb⟩) | (go_at_call 16; (with_reducible refine (of_any b l0 l1 _).mono ?_); rintro e Wb ⟨rfl, hbb⟩) | (go_at_call 17; (with_reducible refine (rof_any b l0 l1 _).mono ?_); rintro e Wb ⟨rfl, hbb⟩) | (go_at_call 15; (with_reducible refine (back_any _ _ _ _ _ _).mono ?_); rintro e Wb ⟨rfl, hbb⟩) | (go_at_call 18; (with_reducible refine (par_below b l0 l1 _).mono ?_); rintro e Wb ⟨rfl, hbb⟩) | (go_at_call 19; (with_reducible refine (rpar_below b l0 l1 _).mono ?_); rintro e Wb ⟨rfl, hbb⟩) | (go_at_call 20; (with_reducible refine (alive_any _).mono ?_); rintro e Wb ⟨rfl, hbb⟩)))
  simp only [Exit.then]
  go_step
  go_step
  go_step
  go_ret
  go_split_ands
  exact ⟨rfl, by assumption⟩

/-! ### THE ROW's STEP: WRITTEN OUT: LEAVE IT -/
set_option maxRecDepth 100000 in
theorem lifted (os : Os) (started : os.Started) (H : Type) (enc : TypeId × Value → H) :
    ReturnsInHanded {} Try.checked os 3 .any (Rows.wordBytesSpec.pre6 enc Try.prog Try.f3 Rows.wordBytesRow.domain false) (Rows.wordBytesSpec.post enc Try.prog Try.f3 false true false false) := by
  refine returnsInHanded_of_change (C := Try.checked) own started (by kernel_rfl) Try.func3
    (ChangeSpec.witness6 (enc := enc) (C := Try.checked) false ⟨#[], #[.agg #[.bool false, .bool false, .bool false, .bool false, .bool false], .int .u8 0], []⟩ 8 (by kernel_rfl) (by kernel_rfl) (by kernel_rfl) (by kernel_rfl)) ?_
  intro W base args ds gs before hval0 hW hcnd _
  have hval : ∀ (j : Nat) t v, Try.f3.params[j]? = some t → args[j]? = some v → Value.okWide Try.prog W .any base t v := hval0
  have hW' := hW
  obtain ⟨p, q, hA0, hV, rfl, hfz, hnd⟩ := hW
  have hA : DataW.TrodAll enc Try.prog W 0 (fun _ => true) true Try.f3.params.toList args.toList ds p := hA0
  rw [Try.params3] at hA hval
  obtain ⟨v0, vs0, d0, ds0, p0, q0, hargs, rfl, rfl, h0, r0⟩ := trodAll_cons hA
  obtain ⟨v1, vs1, d1, ds1, p1, q1, rfl, rfl, rfl, h1, r1⟩ := trodAll_cons r0
  obtain ⟨rfl, rfl, rfl⟩ := trodAll_nil r1
  obtain rfl : args = #[v0, v1] := by cases args; simp_all
  obtain ⟨rfl, rfl⟩ := trodVars_none hV
  obtain ⟨s, z, h, p, c, rfl, rfl, rfl⟩ := open_flags (hval 0 23 v0 rfl rfl) h0
  obtain ⟨a1, rfl, rfl, rfl, w1⟩ := open_int Try.underlying5 (hval 1 5 v1 rfl rfl) h1
  clear hA0 hval0
  simp only [List.append_nil] at hW'
  refine (walk s z h p c a1 w1 W).mono fun e W' ⟨he, hg⟩ => ?_
  subst he
  exact ⟨_, rfl, _, _, _, [], [], [], hW', trodAll_cons_mk (shut_bool Try.underlying4 _) trodAll_mk0, trodAll_cons_mk (shut_flags s z h p c) (trodAll_cons_mk (shut_int Try.underlying5 w1) trodAll_mk0), rfl,
    hg.frame _, fun h => by cases h⟩

theorem over : Rows.wordBytesRow.holds Try.pinned (OpenSpec.ofChange Rows.wordBytesSpec) :=
  OpenClaim.holds_of_wide 3 Try.f3 rfl rfl rfl rfl rfl rfl rfl ⟨rfl, rfl, rfl, rfl, rfl⟩ rfl rfl rfl rfl rfl (by kernel_rfl) Try.func3 (by kernel_rfl)
    (of_decide_eq_true (by kernel_rfl)) (by unfold Func.isWrapper; first | (rw [if_pos (by decide +kernel)]; kernel_rfl) | (rw [if_neg (by decide +kernel)]; exact ⟨rfl, rfl⟩))
    (fun os started H enc _ => lifted os started H enc)

/-- ████ THE STATEMENT ████ -/
theorem proved : Rows.WordBytesSaid :=
  over
#print axioms proved
end Go.Proofs.Ytpkiobnnpjimaaa.wordBytes
