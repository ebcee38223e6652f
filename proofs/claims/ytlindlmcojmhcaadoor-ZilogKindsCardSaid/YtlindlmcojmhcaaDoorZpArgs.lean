/- What the program's Args of Zilog's mnemonics answers: the operands of an opcode's form; the program's tables hold what its text says. -/
import Derived.Test.YtlindlmcojmhcaaDoorZpArr
namespace Go.Proofs.YtlindlmcojmhcaaDoor
open Go.RowKit

/-- whether the operands of an Intel name, turned, are those of Zilog's form -/
def arrOk (s : List UInt8) (m z : List (List UInt8)) : Bool :=
  (match m with
    | x :: _ => (arrAL.any fun p => decide (p.1 = s ∧ z = [p.2, x])) || ((decide (x ∈ insI) && (arrBL.any fun p => decide (p.1 = s ∧ z = [[40] ++ x ++ [41], p.2]))) ||
      ((decide (x ∈ insI) && (arrCL.any fun p => decide (p.1 = s ∧ z = [p.2, [40] ++ x ++ [41]]))) || (rstP.any fun p => decide (s = [82, 83, 84] ∧ p.1 = x ∧ z = [p.2]))))
    | [] => false) ||
  (decide (s = [83, 80, 72, 76] ∧ z = [[83, 80], [72, 76]]) ||
  (decide (s = [88, 67, 72, 71] ∧ z = [[68, 69], [72, 76]]) ||
  (decide (s = [88, 84, 72, 76] ∧ z = [[40, 83, 80, 41], [72, 76]]) ||
  (decide (s = [80, 67, 72, 76] ∧ z = [[40, 72, 76, 41]]) ||
  decide (s ∉ arrNames ∧ z = m)))))
theorem textR_slice {w : World} {v : Value} {l : List (List UInt8)} (h : TextR w v l) : ∃ sp n c, v = .slice sp n c := by
  obtain ⟨b, o, sp, c, rfl, _⟩ := h
  exact ⟨_, _, _, rfl⟩
theorem arranged_any {s : List UInt8} {m z : List (List UInt8)} (h : arrOk s m z = true) (v : Value) (w : World) (hv : TextR w v m) :
    Calls Tryd.prog 30 #[.string ⟨s.toArray⟩, v] w fun e w' => ∃ v', e = .returned v' ∧ TextR w' v' z ∧ Below w.heap.size w w' := by
  unfold arrOk at h
  rw [Bool.or_eq_true] at h
  rcases h with h | h
  · cases m with
    | nil => cases h
    | cons x l =>
      simp only [Bool.or_eq_true, Bool.and_eq_true, List.any_eq_true, decide_eq_true_eq] at h
      rcases h with ⟨p, hp, rfl, rfl⟩ | ⟨hx, p, hp, rfl, rfl⟩ | ⟨hx, p, hp, rfl, rfl⟩ | ⟨p, hp, rfl, rfl, rfl⟩
      · exact arrA p.1 p.2 x l hp v w hv
      · exact arrB p.1 p.2 x l hp hx v w hv
      · exact arrC p.1 p.2 x l hp hx v w hv
      · exact arrRst p.1 p.2 l hp v w hv
  · simp only [Bool.or_eq_true, decide_eq_true_eq] at h
    rcases h with ⟨rfl, rfl⟩ | ⟨rfl, rfl⟩ | ⟨rfl, rfl⟩ | ⟨rfl, rfl⟩ | ⟨hs, rfl⟩
    · obtain ⟨sp, n, c, rfl⟩ := textR_slice hv
      exact arrSphl sp n c w
    · obtain ⟨sp, n, c, rfl⟩ := textR_slice hv
      exact arrXchg sp n c w
    · obtain ⟨sp, n, c, rfl⟩ := textR_slice hv
      exact arrXthl sp n c w
    · obtain ⟨sp, n, c, rfl⟩ := textR_slice hv
      exact arrPchl sp n c w
    · obtain ⟨sp, n, c, hv'⟩ := textR_slice hv
      subst hv'
      refine (arrRest s hs sp n c w).mono ?_
      rintro _ _ ⟨rfl, rfl⟩
      exact ⟨_, rfl, hv, Below.refl _ _⟩
/-- Intel's operands of an opcode, as Zilog writes them -/
def midZ (op : Nat) : List (List UInt8) := (formL op).2.map (argZ (formL op).1)
theorem zargs_all : ((List.range 256).all fun op => if condI op < 0 then arrOk (formL op).1 (midZ op) (zfmL op).2 else decide ((zfmL op).2 = (formL op).1.tail :: midZ op)) = true := by kernel_rfl
theorem zargs_low {op : Nat} (h : op < 256) (hc : condI op < 0) : arrOk (formL op).1 (midZ op) (zfmL op).2 = true := by
  have := List.all_eq_true.1 zargs_all op (List.mem_range.2 h)
  rwa [if_pos hc] at this
theorem zargs_cond {op : Nat} (h : op < 256) (hc : 0 ≤ condI op) : (zfmL op).2 = (formL op).1.tail :: midZ op := by
  have := List.all_eq_true.1 zargs_all op (List.mem_range.2 h)
  rw [if_neg (by omega)] at this
  exact of_decide_eq_true this
set_option maxHeartbeats 2000000 in
set_option maxRecDepth 4000 in
theorem zargs_any (op : Nat) (h : op < 256) (w : World) (hT : Tabs w) : Calls Tryd.prog 11 #[.int .u8 op] w fun e w' => ∃ v, e = .returned v ∧ TextR w' v (zfmL op).2 ∧ Below w.heap.size w w' := by
  have HN := Lib.hid (name_any op h w hT)
  have HA := Lib.hid (fun W hW => args_any op h W hW)
  have HC := Lib.hid (fun w => cond_any op h w)
  have HO := Lib.hid (fun v w hv => operandsZ_any op h v w hv)
  have HT := Lib.hid hT
  have hn2 := (size_form h).2.1
  have hml : (midZ op).length = (formL op).2.length := by simp [midZ]
  rw [show (formL op).2.map (argZ (formL op).1) = midZ op from rfl] at HO
  have hR := fun hc v w hv => arranged_any (zargs_low h hc) v w hv
  have hQ := fun hc w => condition_any h hc w
  have hE := fun hc => zargs_cond h hc
  clear hT
  generalize condI op = c at HC hR hQ hE
  generalize midZ op = m at HO hml hR hE
  generalize (formL op).1 = s at HN HO hR hQ hE
  generalize (formL op).2 = l at HA HO hn2 hml
  generalize (zfmL op).2 = z at hR hE ⊢
  rcases Int.lt_or_le c 0 with hc | hc
  · have HR := Lib.hid (hR hc)
    have hd : decide (0 ≤ c) = false := decide_eq_false (by omega)
    have HML := Lib.hid hml
    clear hR hQ hE hc hn2 hml
    go_enter Tryd.func11, Tryd.ntmps11
    go_wp2_with (first
      | (go_at_call 18; refine HN.out.mono ?_; rintro _ w1 ⟨rfl, hb1⟩; have HB1 := Lib.hid hb1; clear hb1)
      | (go_at_call 27; refine (HA.out _ (HT.out.below HB1.out)).mono ?_; rintro _ w2 ⟨v2, rfl, ht2, hb2⟩; have HT2 := Lib.hid ht2; have HB2 := Lib.hid (below_step HB1.out hb2); clear ht2 hb2)
      | (go_at_call 26; refine (HO.out _ _ HT2.out).mono ?_; rintro _ w3 ⟨v3, rfl, ho3, hb3⟩; have HT3 := Lib.hid (textR_of_own ho3 HML.out); have HB3 := Lib.hid (below_step HB2.out hb3); clear ho3 hb3)
      | (go_at_call 21; refine (HC.out _).mono ?_; rintro _ _ ⟨rfl, rfl⟩)
      | (go_at_call 30; refine (HR.out _ _ HT3.out).mono ?_; rintro _ w4 ⟨v4, rfl, ht4, hb4⟩; have HT4 := Lib.hid ht4; have HB4 := Lib.hid (below_step HB3.out hb4); clear ht4 hb4))
    go_ret
    exact ⟨_, rfl, HT4.out, HB4.out⟩
  · have HQ := Lib.hid (hQ hc)
    have HE := Lib.hid (hE hc)
    have hd : decide (0 ≤ c) = true := decide_eq_true (by omega)
    have HML := Lib.hid hml
    have HM2 := Lib.hid (show m.length ≤ 1000000 by omega)
    have HL := Lib.hid (fun w => list_one s.tail w)
    clear hR hQ hE hn2 hml
    go_enter Tryd.func11, Tryd.ntmps11
    go_wp2_with (first
      | (go_at_call 18; refine HN.out.mono ?_; rintro _ w1 ⟨rfl, hb1⟩; have HB1 := Lib.hid hb1; clear hb1)
      | (go_at_call 27; refine (HA.out _ (HT.out.below HB1.out)).mono ?_; rintro _ w2 ⟨v2, rfl, ht2, hb2⟩; have HT2 := Lib.hid ht2; have HB2 := Lib.hid (below_step HB1.out hb2); clear ht2 hb2)
      | (go_at_call 26; refine (HO.out _ _ HT2.out).mono ?_; rintro _ w3 ⟨v3, rfl, ho3, hb3⟩; have HT3 := Lib.hid (textR_of_own ho3 HML.out); have HB3 := Lib.hid (below_step HB2.out hb3); clear ho3 hb3)
      | (go_at_call 21; refine (HC.out _).mono ?_; rintro _ _ ⟨rfl, rfl⟩)
      | (go_at_call 29; refine (HQ.out _).mono ?_; rintro _ _ ⟨rfl, rfl⟩)
      | (go_at_call 28; refine (HL.out _).mono ?_; rintro _ w4 ⟨v4, rfl, _, ho4, hb4⟩; have HO4 := Lib.hid ho4; have HT4 := Lib.hid (HT3.out.below hb4); have HB4 := Lib.hid (below_step HB3.out hb4); have HZ4 := Lib.hid hb4.size; clear ho4 hb4)
      | (at_builtin; (refine wpList_append_row rfl (.tmp 17) (.tmp 18) rfl _ v4 1 [s.tail] rfl HO4.out (by omega) v3 m rfl HM2.out HT4.out HZ4.out ?_; intro v5 w5 ho5 hb5; have HO5 := Lib.hid ho5; have HB5 := Lib.hid (HB4.out.trans (hb5.mono HB3.out.size)); clear ho5 hb5)))
    go_ret
    exact ⟨_, rfl, by rw [HE.out]; exact textR_of_own HO5.out (by simp; omega), HB5.out⟩
end Go.Proofs.YtlindlmcojmhcaaDoor
