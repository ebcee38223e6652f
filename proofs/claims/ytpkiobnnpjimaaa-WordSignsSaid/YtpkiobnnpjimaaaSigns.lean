/- The law WordSigns returns true whatever two bytes and carry it is given, and leaves all memory that was there as it was: 'Rows.WordSignsSaid'. There is no condition. -/
import Derived.Test.YtpkiobnnpjimaaaAlive
import Derived.Test.YtpkiobnnpjimaaaForms
import Derived.Test.YtpkiobnnpjimaaaJoins
import Derived.Test.YtpkiobnnpjimaaaRows
import Derived.WalkKit
import Derived.ProofKit
import Derived.OpenShut
namespace Go.Proofs.Ytpkiobnnpjimaaa.wordSigns
open Go.Proofs.WordMath
open Go.ChangeShapes Go.WideShapes Go.ChangeAt Go.RowKit
set_option linter.unusedVariables false      -- a walk need not use every 'w<i>' (that an integer argument fits its kind)

theorem own : ownKnob Try.prog.godebug = none := by kernel_rfl

/-! ### STEP 1: THE WALK: the Go text returns true. 'Grown w w'': the world has at most new blocks (Derived/RowKit3.lean). Part the cases AHEAD of 'go_enter' where a test parts the walk; take each callee by a contract of your own. -/
theorem and_bd (a b : Int) (a0 : 0 ≤ a) (a1 : a ≤ 255) (b0 : 0 ≤ b) (b1 : b ≤ 255) : 0 ≤ bits .and .u8 a b ∧ bits .and .u8 a b ≤ 255 := by
  rw [u8_and a b a0 (by omega) b0 (by omega)]
  have := Nat.and_lt_two_pow (n := 8) a.toNat (y := b.toNat) (by omega)
  omega
theorem or_bd (a b : Int) (a0 : 0 ≤ a) (a1 : a ≤ 255) (b0 : 0 ≤ b) (b1 : b ≤ 255) : 0 ≤ bits .or .u8 a b ∧ bits .or .u8 a b ≤ 255 := by
  rw [u8_or a b a0 (by omega) b0 (by omega)]
  have := Nat.or_lt_two_pow (n := 8) (x := a.toNat) (y := b.toNat) (by omega) (by omega)
  omega
theorem xor_bd (a b : Int) (a0 : 0 ≤ a) (a1 : a ≤ 255) (b0 : 0 ≤ b) (b1 : b ≤ 255) : 0 ≤ bits .xor .u8 a b ∧ bits .xor .u8 a b ≤ 255 := by
  rw [u8_xor a b a0 (by omega) b0 (by omega)]
  have := Nat.xor_lt_two_pow (n := 8) (x := a.toNat) (y := b.toNat) (by omega) (by omega)
  omega
set_option maxRecDepth 100000 in
set_option maxHeartbeats 2000000 in
theorem walk (a0 : Int) (a1 : Int) (a2 : Bool) (w0 : (Lit.int .u8 a0).wf = true) (w1 : (Lit.int .u8 a1).wf = true) (w : World) :
    Calls Try.prog 10 #[.int .u8 a0, .int .u8 a1, .bool a2] w fun e w' => e = .returned (.bool true) ∧ Below w.heap.size w w' := by
  obtain ⟨l0, l1⟩ : 0 ≤ a0 ∧ a0 ≤ 255 := bounds_u8 w0
  obtain ⟨l2, l3⟩ : 0 ≤ a1 ∧ a1 ≤ 255 := bounds_u8 w1
  clear w0 w1
  obtain ⟨m0, m1⟩ := and_bd a0 a1 l0 l1 l2 l3
  obtain ⟨o0, o1⟩ := or_bd a0 a1 l0 l1 l2 l3
  obtain ⟨x0, x1⟩ := xor_bd a0 a1 l0 l1 l2 l3
  obtain ⟨m, hm⟩ : ∃ m, bits .and .u8 a0 a1 = m := ⟨_, rfl⟩
  obtain ⟨o, ho⟩ : ∃ o, bits .or .u8 a0 a1 = o := ⟨_, rfl⟩
  obtain ⟨x, hx⟩ : ∃ x, bits .xor .u8 a0 a1 = x := ⟨_, rfl⟩
  rw [hm] at m0 m1
  rw [ho] at o0 o1
  rw [hx] at x0 x1
  go_enter Try.func10, Try.ntmps10
  go_wp2_with (first
    | (go_at_call 21; with_reducible refine (add_any a0 a1 a2 l0 l1 l2 l3 _).mono ?_; rintro e W1 ⟨rfl, hb1⟩; (have hg1 : Below w.heap.size w W1 := hb1); clear hb1)
    | (go_at_call 23; with_reducible refine (sub_any a0 a1 a2 l0 l1 l2 l3 _).mono ?_; rintro e W2 ⟨rfl, hb2⟩; (have hk1_2 := at_below hb2 (at_new W1 _)); (have hz1_2 : W1.heap.size < W2.heap.size := by have := hb2.size; simp at this; omega); (have hg2 : Below w.heap.size w W2 := below_step (hg1.alloc hg1.size _) hb2); clear hb2 hg1)
    | (go_at_call 25; with_reducible refine (and_any a0 a1 m o hm ho m0 m1 o0 o1 _).mono ?_; rintro e W3 ⟨rfl, hb3⟩; (have hk1_3 := at_below hb3 (at_old hk1_2)); clear hk1_2; (have hk2_3 := at_below hb3 (at_new W2 _)); (have hz2_3 : W2.heap.size < W3.heap.size := by have := hb3.size; simp at this; omega); (have hz1_3 : W1.heap.size < W3.heap.size := by omega); (have hg3 : Below w.heap.size w W3 := below_step (hg2.alloc hg2.size _) hb3); clear hb3 hg2)
    | (go_at_call 26; with_reducible refine (or_any a0 a1 o ho o0 o1 _).mono ?_; rintro e W4 ⟨rfl, hb4⟩; (have hk1_4 := at_below hb4 (at_old hk1_3)); clear hk1_3; (have hk2_4 := at_below hb4 (at_old hk2_3)); clear hk2_3; (have hk3_4 := at_below hb4 (at_new W3 _)); (have hz3_4 : W3.heap.size < W4.heap.size := by have := hb4.size; simp at this; omega); (have hz1_4 : W1.heap.size < W4.heap.size := by omega); (have hz2_4 : W2.heap.size < W4.heap.size := by omega); (have hg4 : Below w.heap.size w W4 := below_step (hg3.alloc hg3.size _) hb4); clear hb4 hg3)
    | (go_at_call 27; with_reducible refine (xor_any a0 a1 x hx x0 x1 _).mono ?_; rintro e W5 ⟨rfl, hb5⟩; (have hk1_5 := at_below hb5 (at_old hk1_4)); clear hk1_4; (have hk2_5 := at_below hb5 (at_old hk2_4)); clear hk2_4; (have hk3_5 := at_below hb5 (at_old hk3_4)); clear hk3_4; (have hk4_5 := at_below hb5 (at_new W4 _)); (have hz4_5 : W4.heap.size < W5.heap.size := by have := hb5.size; simp at this; omega); (have hz1_5 : W1.heap.size < W5.heap.size := by omega); (have hz2_5 : W2.heap.size < W5.heap.size := by omega); (have hz3_5 : W3.heap.size < W5.heap.size := by omega); (have hg5 : Below w.heap.size w W5 := below_step (hg4.alloc hg4.size _) hb5); clear hb5 hg4; obtain ⟨_, _, _, _, _⟩ := (five hk1_5).1)
    | (go_at_call 41; refine (signs_any _ _ _ _ _ _ (by first | exact (lowB_bd _).1 | omega) (by first | exact (lowB_bd _).2 | omega) rfl rfl rfl _).mono ?_; rintro e V1 ⟨rfl, hbb1⟩; (have hv1_1 := at_below hbb1 (at_old hk1_5)); (have hv2_1 := at_below hbb1 (at_old hk2_5)); (have hv3_1 := at_below hbb1 (at_old hk3_5)); (have hv4_1 := at_below hbb1 (at_old hk4_5)); (have hv5_1 := at_below hbb1 (at_new W5 _)); obtain ⟨_, _, _, _, _⟩ := (five hv1_1).1; obtain ⟨_, _, _, _, _⟩ := (five hv2_1).1; obtain ⟨_, _, _, _, _⟩ := (five hv3_1).1; obtain ⟨_, _, _, _, _⟩ := (five hv4_1).1; obtain ⟨_, _, _, _, _⟩ := (five hv5_1).1; (have hh1 : Below w.heap.size w V1 := below_step (hg5.alloc hg5.size _) hbb1); clear hbb1)
    | (go_at_call 41; refine (signs_any _ _ _ _ _ _ (by first | exact (lowB_bd _).1 | omega) (by first | exact (lowB_bd _).2 | omega) rfl rfl rfl _).mono ?_; rintro e V2 ⟨rfl, hbb2⟩; (have hv1_2 := at_below hbb2 (hv1_1)); clear hv1_1; (have hv2_2 := at_below hbb2 (hv2_1)); clear hv2_1; (have hv3_2 := at_below hbb2 (hv3_1)); clear hv3_1; (have hv4_2 := at_below hbb2 (hv4_1)); clear hv4_1; (have hv5_2 := at_below hbb2 (hv5_1)); clear hv5_1; obtain ⟨_, _, _, _, _⟩ := (five hv1_2).1; obtain ⟨_, _, _, _, _⟩ := (five hv2_2).1; obtain ⟨_, _, _, _, _⟩ := (five hv3_2).1; obtain ⟨_, _, _, _, _⟩ := (five hv4_2).1; obtain ⟨_, _, _, _, _⟩ := (five hv5_2).1; (have hh2 : Below w.heap.size w V2 := below_step (hh1) hbb2); clear hbb2)
    | (go_at_call 41; refine (signs_any _ _ _ _ _ _ (by first | exact (lowB_bd _).1 | omega) (by first | exact (lowB_bd _).2 | omega) rfl rfl rfl _).mono ?_; rintro e V3 ⟨rfl, hbb3⟩; (have hv1_3 := at_below hbb3 (hv1_2)); clear hv1_2; (have hv2_3 := at_below hbb3 (hv2_2)); clear hv2_2; (have hv3_3 := at_below hbb3 (hv3_2)); clear hv3_2; (have hv4_3 := at_below hbb3 (hv4_2)); clear hv4_2; (have hv5_3 := at_below hbb3 (hv5_2)); clear hv5_2; obtain ⟨_, _, _, _, _⟩ := (five hv1_3).1; obtain ⟨_, _, _, _, _⟩ := (five hv2_3).1; obtain ⟨_, _, _, _, _⟩ := (five hv3_3).1; obtain ⟨_, _, _, _, _⟩ := (five hv4_3).1; obtain ⟨_, _, _, _, _⟩ := (five hv5_3).1; (have hh3 : Below w.heap.size w V3 := below_step (hh2) hbb3); clear hbb3)
    | (go_at_call 41; refine (signs_any _ _ _ _ _ _ (by first | exact (lowB_bd _).1 | omega) (by first | exact (lowB_bd _).2 | omega) rfl rfl rfl _).mono ?_; rintro e V4 ⟨rfl, hbb4⟩; (have hv1_4 := at_below hbb4 (hv1_3)); clear hv1_3; (have hv2_4 := at_below hbb4 (hv2_3)); clear hv2_3; (have hv3_4 := at_below hbb4 (hv3_3)); clear hv3_3; (have hv4_4 := at_below hbb4 (hv4_3)); clear hv4_3; (have hv5_4 := at_below hbb4 (hv5_3)); clear hv5_3; obtain ⟨_, _, _, _, _⟩ := (five hv1_4).1; obtain ⟨_, _, _, _, _⟩ := (five hv2_4).1; obtain ⟨_, _, _, _, _⟩ := (five hv3_4).1; obtain ⟨_, _, _, _, _⟩ := (five hv4_4).1; obtain ⟨_, _, _, _, _⟩ := (five hv5_4).1; (have hh4 : Below w.heap.size w V4 := below_step (hh3) hbb4); clear hbb4)
    | (go_at_call 41; refine (signs_any _ _ _ _ _ _ (by first | exact (lowB_bd _).1 | omega) (by first | exact (lowB_bd _).2 | omega) rfl rfl rfl _).mono ?_; rintro e V5 ⟨rfl, hbb5⟩; (have hv1_5 := at_below hbb5 (hv1_4)); clear hv1_4; (have hv2_5 := at_below hbb5 (hv2_4)); clear hv2_4; (have hv3_5 := at_below hbb5 (hv3_4)); clear hv3_4; (have hv4_5 := at_below hbb5 (hv4_4)); clear hv4_4; (have hv5_5 := at_below hbb5 (hv5_4)); clear hv5_4; obtain ⟨_, _, _, _, _⟩ := (five hv1_5).1; obtain ⟨_, _, _, _, _⟩ := (five hv2_5).1; obtain ⟨_, _, _, _, _⟩ := (five hv3_5).1; obtain ⟨_, _, _, _, _⟩ := (five hv4_5).1; obtain ⟨_, _, _, _, _⟩ := (five hv5_5).1; (have hh5 : Below w.heap.size w V5 := below_step (hh4) hbb5); clear hbb5)
    | (go_at_call 20; refine (alive_any _).mono ?_; rintro e V6 ⟨rfl, hbb6⟩; (have hh6 : Below w.heap.size w V6 := below_step hh5 hbb6); clear hbb6))
  go_ret
  exact ⟨rfl, hh6⟩

/-! ### THE ROW's STEP: WRITTEN OUT: LEAVE IT -/
set_option maxRecDepth 100000 in
theorem lifted (os : Os) (started : os.Started) (H : Type) (enc : TypeId × Value → H) :
    ReturnsInHanded {} Try.checked os 10 .any (Rows.wordSignsSpec.pre6 enc Try.prog Try.f10 Rows.wordSignsRow.domain false) (Rows.wordSignsSpec.post enc Try.prog Try.f10 false true false false) := by
  refine returnsInHanded_of_change (C := Try.checked) own started (by kernel_rfl) Try.func10
    (ChangeSpec.witness6 (enc := enc) (C := Try.checked) false ⟨#[], #[.int .u8 0, .int .u8 0, .bool false], []⟩ 8 (by kernel_rfl) (by kernel_rfl) (by kernel_rfl) (by kernel_rfl)) ?_
  intro W base args ds gs before hval0 hW hcnd _
  have hval : ∀ (j : Nat) t v, Try.f10.params[j]? = some t → args[j]? = some v → Value.okWide Try.prog W .any base t v := hval0
  have hW' := hW
  obtain ⟨p, q, hA0, hV, rfl, hfz, hnd⟩ := hW
  have hA : DataW.TrodAll enc Try.prog W 0 (fun _ => true) true Try.f10.params.toList args.toList ds p := hA0
  rw [Try.params10] at hA hval
  obtain ⟨v0, vs0, d0, ds0, p0, q0, hargs, rfl, rfl, h0, r0⟩ := trodAll_cons hA
  obtain ⟨v1, vs1, d1, ds1, p1, q1, rfl, rfl, rfl, h1, r1⟩ := trodAll_cons r0
  obtain ⟨v2, vs2, d2, ds2, p2, q2, rfl, rfl, rfl, h2, r2⟩ := trodAll_cons r1
  obtain ⟨rfl, rfl, rfl⟩ := trodAll_nil r2
  obtain rfl : args = #[v0, v1, v2] := by cases args; simp_all
  obtain ⟨rfl, rfl⟩ := trodVars_none hV
  obtain ⟨a0, rfl, rfl, rfl, w0⟩ := open_int Try.underlying5 (hval 0 5 v0 rfl rfl) h0
  obtain ⟨a1, rfl, rfl, rfl, w1⟩ := open_int Try.underlying5 (hval 1 5 v1 rfl rfl) h1
  obtain ⟨a2, rfl, rfl, rfl⟩ := open_bool Try.underlying4 (hval 2 4 v2 rfl rfl) h2
  clear hA0 hval0
  simp only [List.append_nil] at hW'
  refine (walk a0 a1 a2 w0 w1 W).mono fun e W' ⟨he, hg⟩ => ?_
  subst he
  exact ⟨_, rfl, _, _, _, [], [], [], hW', (trodAll_cons_mk (shut_bool Try.underlying4 _) trodAll_mk0), (trodAll_cons_mk (shut_int Try.underlying5 w0) (trodAll_cons_mk (shut_int Try.underlying5 w1) (trodAll_cons_mk (shut_bool Try.underlying4 _) trodAll_mk0))), rfl,
    hg.frame _, fun h => by cases h⟩

theorem over : Rows.wordSignsRow.holds Try.pinned (OpenSpec.ofChange Rows.wordSignsSpec) :=
  OpenClaim.holds_of_wide 10 Try.f10 rfl rfl rfl rfl rfl rfl rfl ⟨rfl, rfl, rfl, rfl, rfl⟩ rfl rfl rfl rfl rfl (by kernel_rfl) Try.func10 (by kernel_rfl)
    (of_decide_eq_true (by kernel_rfl)) (by unfold Func.isWrapper; first | (rw [if_pos (by decide +kernel)]; kernel_rfl) | (rw [if_neg (by decide +kernel)]; exact ⟨rfl, rfl⟩))
    (fun os started H enc _ => lifted os started H enc)

/-- ████ THE STATEMENT ████ -/
theorem proved : Rows.WordSignsSaid :=
  over
#print axioms proved
end Go.Proofs.Ytpkiobnnpjimaaa.wordSigns
