/- What the program's highForm answers: the form of any opcode from C0 on; the program's tables hold what its text says. -/
import Derived.Test.YtlindlmcojmhcaaDoorIsLeaf
namespace Go.Proofs.YtlindlmcojmhcaaDoor
open Go.RowKit
theorem formed0b (s : List UInt8) {b : ByteArray} (hb : b = ⟨s.toArray⟩) (W : World) : Calls Tryd.prog 56 #[.string b, .slice none 0 0] W fun e w' => e = .returned (.agg #[.string ⟨s.toArray⟩, .string ⟨#[]⟩, .string ⟨#[]⟩, .int .i64 0]) ∧ Below W.heap.size W w' := by
  subst hb; exact formed0 s W
theorem formed1b (s x : List UInt8) {b c : ByteArray} (hb : b = ⟨s.toArray⟩) (hc : c = ⟨x.toArray⟩) {W : World} {k : Nat} {t : TypeId} {fr : Nat × Nat} (h : W.heap[k]? = some (.cells #[.string c] t fr)) : Calls Tryd.prog 56 #[.string b, .slice (some ⟨k, 0, none⟩) 1 1] W fun e w' => e = .returned (.agg #[.string ⟨s.toArray⟩, .string ⟨x.toArray⟩, .string ⟨#[]⟩, .int .i64 1]) ∧ Below W.heap.size W w' := by
  subst hb hc; exact formed1 s x h
theorem enc_small (r : Nat) (h : r < 128) : Utf8.encode (r : Int) = ⟨[UInt8.ofNat r].toArray⟩ := by
  have := List.all_eq_true.1 (show ((List.range 128).all fun (n : Nat) => decide ((Utf8.encode (n : Int)).data = [UInt8.ofNat n].toArray)) = true by kernel_rfl) r (List.mem_range.2 h)
  exact ByteArray.ext (of_decide_eq_true this)
set_option maxHeartbeats 8000000 in
theorem highf_any (op : Nat) (h : op < 256) (w : World) (hT : Tabs w) : Calls Tryd.prog 57 #[.int .u8 op] w fun e w' => e = .returned (formV (highL op)) ∧ Below w.heap.size w w' := by
  have HM := Lib.hid (middle_any op h)
  have HO := Lib.hid (odd_any op h)
  have HS := Lib.hid (stacked_any op h)
  have HL := Lib.hid (leap_any op h)
  have HX := Lib.hid (mixed_any op h)
  have HU := Lib.hid (push_any op h)
  have hr : op / 8 % 8 < 8 := by omega
  have HT := Lib.hid hT
  have HC := fun o => (hT.alloc o).conds (op / 8 % 8) hr
  have HN := fun o => (hT.alloc o).numbs (op / 8 % 8) hr
  have hcl : (ix condsL (op / 8 % 8)).length ≤ 2 := by
    generalize op / 8 % 8 = q at hr
    match q, hr with
    | 0, _ => decide
    | 1, _ => decide
    | 2, _ => decide
    | 3, _ => decide
    | 4, _ => decide
    | 5, _ => decide
    | 6, _ => decide
    | 7, _ => decide
  have hen : Utf8.encode (48 + (op : Int) / 8 % 8) = ⟨[(48 + op / 8 % 8).toUInt8].toArray⟩ := by
    have := enc_small (48 + op / 8 % 8) (by omega)
    rwa [show ((48 + op / 8 % 8 : Nat) : Int) = 48 + (op : Int) / 8 % 8 by omega] at this
  generalize hd : (48 + op / 8 % 8).toUInt8 = dg at hen
  have HEN := Lib.hid hen
  clear hen
  clear hT
  unfold highL
  rw [hd]
  clear hd
  generalize hx : ix condsL (op / 8 % 8) = c at HC hcl ⊢
  generalize hy : ix numbsL (op / 8 % 8) = y at HN ⊢
  generalize hz : stackedL op = x at HS ⊢
  generalize hl : leapL op = fl at HL ⊢
  generalize hm : mixedL op = fm at HX ⊢
  generalize hu : pushL op = fu at HU ⊢
  have E82 := Lib.hid (show (⟨#[82]⟩ : ByteArray) ++ ⟨c.toArray⟩ = ⟨([82] ++ c).toArray⟩ from ByteArray.mk_append_mk [82] c)
  have E74 := Lib.hid (show (⟨#[74]⟩ : ByteArray) ++ ⟨c.toArray⟩ = ⟨([74] ++ c).toArray⟩ from ByteArray.mk_append_mk [74] c)
  have E67 := Lib.hid (show (⟨#[67]⟩ : ByteArray) ++ ⟨c.toArray⟩ = ⟨([67] ++ c).toArray⟩ from ByteArray.mk_append_mk [67] c)
  clear hx hy hz hl hm hu
  unfold formV at HL HX HU ⊢
  obtain ⟨j, hj⟩ : ∃ j, op % 8 = j := ⟨_, rfl⟩
  have hj8 : j < 8 := by omega
  rw [hj]
  match j, hj8 with
  | 0, _ =>
    have hjz : (op : Int) % 8 = 0 := by omega
    try dsimp only
    go_enter Tryd.func57, Tryd.ntmps57
    go_wp2_with (first
      | (go_at_call 41; refine (HM.out _).mono ?_; rintro _ _ ⟨rfl, rfl⟩)
      | (go_at_call 56; refine (formed0b ([82] ++ c) E82.out _).mono ?_; rintro _ w1 ⟨rfl, hb1⟩; obtain ⟨hr1, hB⟩ := res_1 hb1; obtain ⟨⟨k0, k1, k2, k3⟩, ⟨f0, f1, f2, f3⟩⟩ := four hr1; have HB := Lib.hid hB; have HR := Lib.hid hr1; clear hr1 hB hb1))
    exact finS rfl rfl HR.out HB.out rfl
  | 1, _ =>
    have hjz : (op : Int) % 8 = 1 := by omega
    try dsimp only
    cases ho : oddB op
    · rw [ho] at HO
      rw [if_neg (show ¬ (false = true) by decide)]
      go_enter Tryd.func57, Tryd.ntmps57
      go_wp2_with (first
        | (go_at_call 41; refine (HM.out _).mono ?_; rintro _ _ ⟨rfl, rfl⟩)
        | (go_at_call 65; refine (HO.out _).mono ?_; rintro _ _ ⟨rfl, rfl⟩)
        | (go_at_call 68; refine (HS.out _ (HT.out.alloc _)).mono ?_; rintro _ _ ⟨rfl, rfl⟩)
        | (go_at_call 56; refine (formed1 [80, 79, 80] x (at_new2 w _ _)).mono ?_; rintro _ w1 ⟨rfl, hb1⟩; obtain ⟨hr1, hB⟩ := res_2 hb1; obtain ⟨⟨k0, k1, k2, k3⟩, ⟨f0, f1, f2, f3⟩⟩ := four hr1; have HB := Lib.hid hB; have HR := Lib.hid hr1; clear hr1 hB hb1))
      exact finS rfl rfl HR.out HB.out rfl
    · rw [ho] at HO
      rw [if_pos (show true = true from rfl)]
      go_enter Tryd.func57, Tryd.ntmps57
      go_wp2_with (first
        | (go_at_call 41; refine (HM.out _).mono ?_; rintro _ _ ⟨rfl, rfl⟩)
        | (go_at_call 65; refine (HO.out _).mono ?_; rintro _ _ ⟨rfl, rfl⟩)
        | (go_at_call 67; refine (HL.out _).mono ?_; rintro _ w1 ⟨rfl, hb1⟩; obtain ⟨hr1, hB⟩ := res_1 hb1; obtain ⟨⟨k0, k1, k2, k3⟩, ⟨f0, f1, f2, f3⟩⟩ := four hr1; have HB := Lib.hid hB; have HR := Lib.hid hr1; clear hr1 hB hb1))
      exact finS rfl rfl HR.out HB.out rfl
  | 2, _ =>
    have hjz : (op : Int) % 8 = 2 := by omega
    try dsimp only
    go_enter Tryd.func57, Tryd.ntmps57
    go_wp2_with (first
      | (go_at_call 41; refine (HM.out _).mono ?_; rintro _ _ ⟨rfl, rfl⟩)
      | (go_at_call 56; refine (formed1b ([74] ++ c) d16L E74.out rfl (at_new2 w _ _)).mono ?_; rintro _ w1 ⟨rfl, hb1⟩; obtain ⟨hr1, hB⟩ := res_2 hb1; obtain ⟨⟨k0, k1, k2, k3⟩, ⟨f0, f1, f2, f3⟩⟩ := four hr1; have HB := Lib.hid hB; have HR := Lib.hid hr1; clear hr1 hB hb1))
    exact finS rfl rfl HR.out HB.out rfl
  | 3, _ =>
    have hjz : (op : Int) % 8 = 3 := by omega
    try dsimp only
    go_enter Tryd.func57, Tryd.ntmps57
    go_wp2_with (first
      | (go_at_call 41; refine (HM.out _).mono ?_; rintro _ _ ⟨rfl, rfl⟩)
      | (go_at_call 69; refine (HX.out _).mono ?_; rintro _ w1 ⟨rfl, hb1⟩; obtain ⟨hr1, hB⟩ := res_1 hb1; obtain ⟨⟨k0, k1, k2, k3⟩, ⟨f0, f1, f2, f3⟩⟩ := four hr1; have HB := Lib.hid hB; have HR := Lib.hid hr1; clear hr1 hB hb1))
    exact finS rfl rfl HR.out HB.out rfl
  | 4, _ =>
    have hjz : (op : Int) % 8 = 4 := by omega
    try dsimp only
    go_enter Tryd.func57, Tryd.ntmps57
    go_wp2_with (first
      | (go_at_call 41; refine (HM.out _).mono ?_; rintro _ _ ⟨rfl, rfl⟩)
      | (go_at_call 56; refine (formed1b ([67] ++ c) d16L E67.out rfl (at_new2 w _ _)).mono ?_; rintro _ w1 ⟨rfl, hb1⟩; obtain ⟨hr1, hB⟩ := res_2 hb1; obtain ⟨⟨k0, k1, k2, k3⟩, ⟨f0, f1, f2, f3⟩⟩ := four hr1; have HB := Lib.hid hB; have HR := Lib.hid hr1; clear hr1 hB hb1))
    exact finS rfl rfl HR.out HB.out rfl
  | 5, _ =>
    have hjz : (op : Int) % 8 = 5 := by omega
    try dsimp only
    go_enter Tryd.func57, Tryd.ntmps57
    go_wp2_with (first
      | (go_at_call 41; refine (HM.out _).mono ?_; rintro _ _ ⟨rfl, rfl⟩)
      | (go_at_call 70; refine (HU.out _ (HT.out.alloc _)).mono ?_; rintro _ w1 ⟨rfl, hb1⟩; obtain ⟨hr1, hB⟩ := res_1 hb1; obtain ⟨⟨k0, k1, k2, k3⟩, ⟨f0, f1, f2, f3⟩⟩ := four hr1; have HB := Lib.hid hB; have HR := Lib.hid hr1; clear hr1 hB hb1))
    exact finS rfl rfl HR.out HB.out rfl
  | 6, _ =>
    have hjz : (op : Int) % 8 = 6 := by omega
    try dsimp only
    go_enter Tryd.func57, Tryd.ntmps57
    go_wp2_with (first
      | (go_at_call 41; refine (HM.out _).mono ?_; rintro _ _ ⟨rfl, rfl⟩)
      | (go_at_call 56; refine (formed1b y d8L rfl rfl (at_new2 w _ _)).mono ?_; rintro _ w1 ⟨rfl, hb1⟩; obtain ⟨hr1, hB⟩ := res_2 hb1; obtain ⟨⟨k0, k1, k2, k3⟩, ⟨f0, f1, f2, f3⟩⟩ := four hr1; have HB := Lib.hid hB; have HR := Lib.hid hr1; clear hr1 hB hb1))
    exact finS rfl rfl HR.out HB.out rfl
  | 7, _ =>
    have hjz : (op : Int) % 8 = 7 := by omega
    try dsimp only
    go_enter Tryd.func57, Tryd.ntmps57
    go_wp2_with (first
      | (go_at_call 41; refine (HM.out _).mono ?_; rintro _ _ ⟨rfl, rfl⟩)
      | (go_at_call 56; refine (formed1b [82, 83, 84] [dg] rfl HEN.out (at_new2 w _ _)).mono ?_; rintro _ w1 ⟨rfl, hb1⟩; obtain ⟨hr1, hB⟩ := res_2 hb1; obtain ⟨⟨k0, k1, k2, k3⟩, ⟨f0, f1, f2, f3⟩⟩ := four hr1; have HB := Lib.hid hB; have HR := Lib.hid hr1; clear hr1 hB hb1))
    exact finS rfl rfl HR.out HB.out rfl
end Go.Proofs.YtlindlmcojmhcaaDoor
