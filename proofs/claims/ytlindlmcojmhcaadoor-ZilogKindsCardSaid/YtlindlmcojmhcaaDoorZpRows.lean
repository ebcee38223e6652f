/- What the program's list and operands answer: new rows of texts, of Zilog's operands by Intel's; the rows are short. -/
import Derived.Test.YtlindlmcojmhcaaDoorZpNames
import Derived.LoopTactic
import Derived.Laws.AppendOwnNone
namespace Go.Proofs.YtlindlmcojmhcaaDoor
open Go.RowKit

/-- to append a row of texts, empty or not, to a row that a call owns -/
theorem wpList_append_row {w : World} {ops : Array Oper} {rest : List Oper} {o : Oper} {a : Act} {Q : Exit → Act → World → Prop} (hgd : o.guard = none) (s x : Operand)
    (ho : o.op = .call { callee := .builtin .append, args := #[s, x], argTypes := #[24, 24] })
    (base : Nat) (v : Value) (n : Nat) (l : List (List UInt8)) (hs : a.eval s = v) (hown : w.ownsRow base 9 1 v n (strs l)) (hln : n ≤ 1000000)
    (xv : Value) (ys : List (List UInt8)) (hx : a.eval x = xv) (hm : ys.length ≤ 1000000) (hT : TextR w xv ys) (hbase : base ≤ w.heap.size)
    (h : ∀ v' w', w'.ownsRow base 9 1 v' (n + ys.length) (strs (l ++ ys)) → Below base w w' → wpList Tryd.prog ops Q rest (a.put o.dst v') w') : wpList Tryd.prog ops Q (o :: rest) a w := by
  obtain ⟨b, off, sp, c, rfl, hc, h2, h3⟩ := hT
  cases sp with
  | none =>
    have h0 : ys = [] := by
      cases ys with
      | nil => rfl
      | cons y ys => have := h2 (by simp); cases this
    subst h0
    refine wpList_plain hgd fun K hK => ?_
    have hrun : (Builtin.append_ #[24, 24] o.type #[v, .slice none 0 c]).run Tryd.prog w = .ok v w := by
      obtain ⟨i, p1, p2, p3, p4⟩ := info_parts infoStr
      rcases hown.2 with ⟨rfl, rfl⟩ | ⟨g, cap, cur, rfl, _, _, hnc, _⟩
      · simp [Builtin.append_, run_underlying Tryd.underlying24, sizeOf, typeInfo, p1, Builtin.lenOf, Builtin.firstCells]
      · simp [Builtin.append_, run_underlying Tryd.underlying24, sizeOf, typeInfo, p1, Builtin.lenOf, Builtin.firstCells, hnc, storeCells]
    simp only [List.length_nil] at hx
    unfold Oper.wp
    simp [execOp, ho, resolve, invoke, builtin, hs, hx, hrun, Result.andThen]
    exact hK _ _ (h v w (by simpa using hown) (Below.refl _ _))
  | some ad =>
    obtain ⟨i, p1, p2, p3, p4⟩ := info_parts infoStr
    have hnews : ∀ j u', (strs ys)[j]? = some u' → w.cell? (ad.add j) = some u' := fun j u' hj => by
      unfold strs at hj
      rw [List.getElem?_map] at hj
      obtain ⟨y, hy, rfl⟩ := Option.map_eq_some_iff.1 hj
      have hpos : 0 < ys.length := by
        have := (List.getElem?_eq_some_iff.1 hy).1
        omega
      have e0 := h2 hpos
      injection e0 with e0
      subst e0
      have e : (⟨b, off, none⟩ : Addr).add j = ⟨b, off + j, none⟩ := by
        cases j <;> simp [Addr.add]
      rw [e]
      exact h3 j y hy
    have hone : ∀ u ∈ strs ys, u.oneCell' = true := fun u hu => by
      obtain ⟨y, _, rfl⟩ := List.mem_map.1 hu
      rfl
    refine wpList_append_own w hgd s x 24 ho base 9 i (.string ⟨#[]⟩) 1 16 Tryd.underlying24 p1 p2 p3 p4 rfl (by decide) v n (strs l) hs hown ad ys.length c (strs ys) hx (by rw [strs_len]; omega) hnews hone
      (by simp only [maxLen]; omega) (by omega) hbase ?_
    intro v' w' hown' hg _
    refine h v' w' (by unfold strs; rw [List.map_append]; exact hown') ((Below.refl base w).grown hg hbase fun r er => ?_)
    rcases Nat.lt_or_ge r base with hr | hr
    · exact absurd er (own_old hown hr)
    · exact hr
theorem list_any (l : List (List UInt8)) (hl : l.length ≤ 1000000) (v : Value) (w : World) (hv : TextR w v l) : Calls Tryd.prog 28 #[v] w fun e w' => ∃ v', e = .returned v' ∧ w'.ownsRow w.heap.size 9 1 v' l.length (strs l) ∧ Below w.heap.size w w' := by
  have HV := Lib.hid hv
  clear hv
  go_enter Tryd.func28, Tryd.ntmps28
  go_wp2_with (at_builtin; refine wpList_append_row rfl (.const (.slice none 0 0)) (.tmp 3) rfl w.heap.size (.slice none 0 0) 0 [] rfl (World.ownsRow_nil _ _ _ _) (by omega) v l rfl hl HV.out (Nat.le_refl _) ?_; intro v3 w3 hown3 hb3; have HO3 := Lib.hid hown3; have HB3 := Lib.hid hb3; clear hown3 hb3)
  go_ret
  exact ⟨_, rfl, by simpa using HO3.out, HB3.out⟩
/-- the row while its first k texts are turned -/
def midL (f : List UInt8 → List UInt8) (l : List (List UInt8)) (k : Nat) : List (List UInt8) := (l.take k).map f ++ l.drop k
theorem midL_at {f : List UInt8 → List UInt8} {l : List (List UInt8)} {k : Nat} {x : List UInt8} (h : l[k]? = some x) : (midL f l k)[k]? = some x := by
  have hk := (List.getElem?_eq_some_iff.1 h).1
  unfold midL
  rw [List.getElem?_append_right (by simp; omega)]
  simp [Nat.min_eq_left (Nat.le_of_lt hk), h]
theorem midL_set {f : List UInt8 → List UInt8} {l : List (List UInt8)} {k : Nat} {x : List UInt8} (h : l[k]? = some x) : (midL f l k).set k (f x) = midL f l (k + 1) := by
  have hk := (List.getElem?_eq_some_iff.1 h).1
  unfold midL
  rw [List.set_append_right _ _ (by simp; omega), List.take_add_one, h]
  have e : l.drop k = x :: l.drop (k + 1) := by
    rw [List.drop_eq_getElem_cons hk]
    have := (List.getElem?_eq_some_iff.1 h).2
    rw [this]
  rw [e]
  simp [Nat.min_eq_left (Nat.le_of_lt hk)]
theorem midL_zero (f : List UInt8 → List UInt8) (l : List (List UInt8)) : midL f l 0 = l := by simp [midL]
theorem midL_all {f : List UInt8 → List UInt8} {l : List (List UInt8)} {k : Nat} (h : l.length ≤ k) : midL f l k = l.map f := by
  simp [midL, List.take_of_length_le h, List.drop_eq_nil_of_le h]
theorem strs_set (l : List (List UInt8)) (k : Nat) (x : List UInt8) : (strs l).set k (strV x) = strs (l.set k x) := by
  simp [strs, List.map_set]
theorem midL_len {f : List UInt8 → List UInt8} {l : List (List UInt8)} {k : Nat} (h : k ≤ l.length) : (midL f l k).length = l.length := by
  simp [midL]; omega
theorem own_form {W : World} {B : Nat} {v : Value} {n : Nat} {xs : List Value} (h : W.ownsRow B 9 1 v n xs) : ∃ sp c, v = .slice sp n c ∧ n ≤ c ∧ (0 < n → ∃ g, sp = some ⟨g, 0, none⟩ ∧ B ≤ g) := by
  rcases h.2 with ⟨rfl, rfl⟩ | ⟨g, cap, cur, rfl, hb, hc, h1, _⟩
  · exact ⟨none, 0, rfl, Nat.le_refl _, by omega⟩
  · exact ⟨_, cap, rfl, h1, fun _ => ⟨g, rfl, hb⟩⟩
set_option maxHeartbeats 4000000 in
theorem operandsZ_any (op : Nat) (h : op < 256) (v : Value) (w : World) (hv : TextR w v (formL op).2) :
    Calls Tryd.prog 26 #[.string ⟨(formL op).1.toArray⟩, v] w fun e w' => ∃ v', e = .returned v' ∧ w'.ownsRow w.heap.size 9 1 v' (formL op).2.length (strs ((formL op).2.map (argZ (formL op).1))) ∧ Below w.heap.size w w' := by
  have HL := Lib.hid (list_any (formL op).2 (Nat.le_trans (size_form h).2.1 (by decide)) v w hv)
  have HP := Lib.hid (fun w => hasPairs_any h w)
  have HR := Lib.hid (fun x (hx : x ∈ (formL op).2) w => pair_any (arg_in h hx) w)
  have HO := Lib.hid (fun x (hx : x ∈ (formL op).2) w => operand_any (s := (formL op).1) (arg_in h hx) w)
  have hn2 := (size_form h).2.1
  clear hv
  generalize (formL op).1 = s at HP HO ⊢
  generalize (formL op).2 = l at HL HR HO hn2 ⊢
  generalize argZ s = f at HO ⊢
  generalize hasP s = b at HP HO
  obtain ⟨n, hn⟩ : ∃ n, l.length = n := ⟨_, rfl⟩
  have HN := Lib.hid hn
  rw [hn] at HL hn2 ⊢
  clear hn
  go_enter Tryd.func26, Tryd.ntmps26
  go_wp2_with (go_at_call 28; refine HL.out.mono ?_; rintro _ w1 ⟨v1, rfl, hown, hb1⟩; obtain ⟨sp, c, rfl, hc, hsp⟩ := own_form hown; have HO1 := Lib.hid hown; have HB1 := Lib.hid hb1; have HSP := Lib.hid hsp; clear hown hb1 hsp)
  go_loopw [6, 7, 12] (fun _ _ i wr => ∃ k : Nat, k ≤ n ∧ i = .int .i64 k ∧ Hid (Below w.heap.size w wr) ∧ Hid (wr.ownsRow w.heap.size 9 1 (.slice sp n c) n (strs (midL f l k)))) (fun _ _ i _ => n - (intOf i).toNat)
  case atStart => exact ⟨0, Nat.zero_le _, rfl, HB1, Lib.hid (by rw [midL_zero]; exact HO1.out)⟩
  case round =>
    obtain ⟨k, hk, rfl, HB, HOW⟩ := hrel
    by_cases hlt : k < n
    · have hi : k < l.length := by rw [HN.out]; exact hlt
      obtain ⟨x, hx⟩ : ∃ x, l[k]? = some x := ⟨_, List.getElem?_eq_getElem hi⟩
      obtain ⟨g, rfl, hg⟩ := HSP.out (by omega)
      have k0 := HOW.out.cellAt k (by omega)
      rw [strs_at (midL_at hx)] at k0
      unfold strV at k0
      have k1 := HOW.out.frozenAt k
      have hm := List.mem_of_getElem? hx
      have HR1 := Lib.hid (HR.out x hm)
      have HO2 := Lib.hid (HO.out x hm)
      have HX := Lib.hid hx
      have HG := Lib.hid hg
      clear hx hm HR HO hg
      cases b with
      | true =>
        rw [if_pos rfl] at HO2
        go_wp2_with (first
          | (go_at_call 43; refine (HP.out _).mono ?_; rintro _ _ ⟨rfl, rfl⟩)
          | (go_at_call 44; refine (HR1.out _).mono ?_; rintro _ _ ⟨rfl, rfl⟩)
          | (go_at_call 45; refine (HO2.out _).mono ?_; rintro _ _ ⟨rfl, rfl⟩))
        go_roundw
        case rel => exact ⟨k + 1, by omega, by go_num, Lib.hid (HB.out.setCell HG.out _), Lib.hid (by rw [← midL_set HX.out, ← strs_set]; exact (HOW.out.stored k _).1)⟩
        case measure => simp [intOf]; omega
      | false =>
        rw [if_neg (by decide)] at HO2
        go_wp2_with (first
          | (go_at_call 43; refine (HP.out _).mono ?_; rintro _ _ ⟨rfl, rfl⟩)
          | (go_at_call 45; refine (HO2.out _).mono ?_; rintro _ _ ⟨rfl, rfl⟩))
        go_roundw
        case rel => exact ⟨k + 1, by omega, by go_num, Lib.hid (HB.out.setCell HG.out _), Lib.hid (by rw [← midL_set HX.out, ← strs_set]; exact (HOW.out.stored k _).1)⟩
        case measure => simp [intOf]; omega
    · obtain rfl : k = n := by omega
      have h9 := HOW.out
      rw [midL_all (by rw [HN.out]; exact Nat.le_refl _)] at h9
      have H9 := Lib.hid h9
      clear h9 HOW
      go_wp2
      go_ret
      exact ⟨_, rfl, H9.out, HB.out⟩
end Go.Proofs.YtlindlmcojmhcaaDoor
