/- What the program's Name, Args and Size answer: those of an opcode's form; the program's tables hold what its text says. -/
import Derived.Test.YtlindlmcojmhcaaDoorIsOf
namespace Go.Proofs.YtlindlmcojmhcaaDoor
open Go.RowKit

abbrev formO (f : Fm) : Obj := .cells #[.string ⟨f.1.toArray⟩, .string ⟨(ix f.2 0).toArray⟩, .string ⟨(ix f.2 1).toArray⟩, .int .i64 (f.2.length : Nat)] 50
theorem field_0 (a b c d : Value) (w : World) : (Instr.field 50 (.agg #[a, b, c, d]) 0).run Tryd.prog w = .ok a w := by
  simp [Instr.field, asAgg, go_sem]
theorem name_any (op : Nat) (h : op < 256) (w : World) (hT : Tabs w) : Calls Tryd.prog 18 #[.int .u8 op] w fun e w' => e = .returned (.string ⟨(formL op).1.toArray⟩) ∧ Below w.heap.size w w' := by
  have HF := Lib.hid (of_any op h w hT)
  clear hT
  generalize formL op = f at HF ⊢
  unfold formV at HF
  have hf0 := field_0
  go_enter Tryd.func18, Tryd.ntmps18
  go_wp2_with (go_at_call 38; refine HF.out.mono ?_; rintro _ w1 ⟨rfl, hb1⟩; have HB := Lib.hid hb1; clear hb1)
  go_ret
  exact ⟨rfl, HB.out⟩
theorem operands_any (b : Nat) (f : Fm) (hl : f.2.length ≤ 2) (w : World) (hb : w.heap[b]? = some (formO f)) : Calls Tryd.prog 46 #[.pointer (some ⟨b, 0, none⟩)] w fun e w' => e = .returned (.slice (some ⟨b, 1, none⟩) f.2.length 2) ∧ Below w.heap.size w w' := by
  obtain ⟨k0, k1, k2, k3⟩ := cells_box hb
  clear hb
  generalize f.2.length = n at hl k3 ⊢
  match n, hl with
  | 0, _ =>
    go_enter Tryd.func46, Tryd.ntmps46
    go_wp2
    go_quiet (fail)
    go_wp2
    go_ret
    exact ⟨rfl, below_drewN (Below.refl _ _) _⟩
  | 1, _ =>
    go_enter Tryd.func46, Tryd.ntmps46
    go_wp2
    go_quiet (fail)
    go_wp2
    go_ret
    exact ⟨rfl, below_drewN (Below.refl _ _) _⟩
  | 2, _ =>
    go_enter Tryd.func46, Tryd.ntmps46
    go_wp2
    go_quiet (fail)
    go_wp2
    go_ret
    exact ⟨rfl, below_drewN (Below.refl _ _) _⟩
theorem form_cells {b : Nat} {f : Fm} (hl : f.2.length ≤ 2) {w : World} (hb : w.heap[b]? = some (formO f)) : ∀ i x, f.2[i]? = some x → w.cell? ⟨b, 1 + i, none⟩ = some (strV x) := fun i x hx => by
  obtain ⟨k0, k1, k2, k3⟩ := cells_box hb
  have hi : i < f.2.length := (List.getElem?_eq_some_iff.1 hx).1
  have e : ix f.2 i = x := by unfold ix; rw [List.getD_eq_getElem?_getD, hx]; rfl
  have : i = 0 ∨ i = 1 := by omega
  rcases this with rfl | rfl
  · rw [e] at k1; exact k1
  · rw [e] at k2; exact k2
/-- to append a row of texts to a row that a call owns -/
theorem wpList_append_strs {w : World} {ops : Array Oper} {rest : List Oper} {o : Oper} {a : Act} {Q : Exit → Act → World → Prop} (hgd : o.guard = none) (s x : Operand)
    (ho : o.op = .call { callee := .builtin .append, args := #[s, x], argTypes := #[24, 24] })
    (base : Nat) (v : Value) (n : Nat) (l : List (List UInt8)) (hs : a.eval s = v) (hown : w.ownsRow base 9 1 v n (strs l)) (hln : n ≤ 1000000)
    (b off c : Nat) (ys : List (List UInt8)) (hx : a.eval x = .slice (some ⟨b, off, none⟩) ys.length c) (hm : ys.length ≤ 1000000) (hb : ∀ i y, ys[i]? = some y → w.cell? ⟨b, off + i, none⟩ = some (strV y)) (hbase : base ≤ w.heap.size)
    (h : ∀ v' w', w'.ownsRow base 9 1 v' (n + ys.length) (strs (l ++ ys)) → Below base w w' → wpList Tryd.prog ops Q rest (a.put o.dst v') w') : wpList Tryd.prog ops Q (o :: rest) a w := by
  obtain ⟨i, p1, p2, p3, p4⟩ := info_parts infoStr
  have hnews : ∀ j u', (strs ys)[j]? = some u' → w.cell? ((⟨b, off, none⟩ : Addr).add j) = some u' := fun j u' hj => by
    unfold strs at hj
    rw [List.getElem?_map] at hj
    obtain ⟨y, hy, rfl⟩ := Option.map_eq_some_iff.1 hj
    have e : (⟨b, off, none⟩ : Addr).add j = ⟨b, off + j, none⟩ := by
      cases j <;> simp [Addr.add]
    rw [e]
    exact hb j y hy
  have hone : ∀ u ∈ strs ys, u.oneCell' = true := fun u hu => by
    obtain ⟨y, _, rfl⟩ := List.mem_map.1 hu
    rfl
  refine wpList_append_own w hgd s x 24 ho base 9 i (.string ⟨#[]⟩) 1 16 Tryd.underlying24 p1 p2 p3 p4 rfl (by decide) v n (strs l) hs hown ⟨b, off, none⟩ ys.length c (strs ys) hx (by rw [strs_len]; omega) hnews hone
    (by simp only [maxLen]; omega) (by omega) hbase ?_
  intro v' w' hown' hg _
  refine h v' w' (by unfold strs; rw [List.map_append]; exact hown') ((Below.refl base w).grown hg hbase fun r er => ?_)
  rcases Nat.lt_or_ge r base with hr | hr
  · exact absurd er (own_old hown hr)
  · exact hr
theorem textR_form {b : Nat} {f : Fm} (hl : f.2.length ≤ 2) {w : World} (hb : w.heap[b]? = some (formO f)) : TextR w (.slice (some ⟨b, 1, none⟩) f.2.length 2) f.2 := by
  obtain ⟨k0, k1, k2, k3⟩ := cells_box hb
  refine ⟨b, 1, _, 2, rfl, hl, fun _ => rfl, fun i x hx => ?_⟩
  have hi : i < f.2.length := (List.getElem?_eq_some_iff.1 hx).1
  have e : ix f.2 i = x := by unfold ix; rw [List.getD_eq_getElem?_getD, hx]; rfl
  have : i = 0 ∨ i = 1 := by omega
  rcases this with rfl | rfl
  · rw [e] at k1; exact k1
  · rw [e] at k2; exact k2
theorem mem_take_succ {l : List (List UInt8)} {k : Nat} {x y : List UInt8} (h : l[k]? = some y) (hx : x ∉ l.take k) (hne : x ≠ y) : x ∉ l.take (k + 1) := by
  rw [List.take_add_one, h]
  simp [hx, hne]
theorem place_any (x : List UInt8) (l : List (List UInt8)) (hl : l.length ≤ 2) (v : Value) (w : World) (hv : TextR w v l) : Calls Tryd.prog 58 #[.string ⟨x.toArray⟩, v] w fun e w' => ∃ z : Int, e = .returned (.int .i64 z) ∧ (0 ≤ z ↔ x ∈ l) ∧ w' = w := by
  obtain ⟨b, o, sp, c, rfl, hc, h2, h3⟩ := hv
  have H2 := Lib.hid h2
  have H3 := Lib.hid h3
  clear h2 h3
  obtain ⟨n, hn⟩ : ∃ n, l.length = n := ⟨_, rfl⟩
  have HN := Lib.hid hn
  rw [hn] at hl hc ⊢
  clear hn
  go_enter Tryd.func58, Tryd.ntmps58
  go_wp2
  go_loopw [5, 6, 9] (fun _ _ i wr => ∃ k : Nat, k ≤ n ∧ i = .int .i64 k ∧ wr = w ∧ Hid (x ∉ l.take k)) (fun _ _ i _ => n - (intOf i).toNat)
  case atStart => exact ⟨0, Nat.zero_le _, rfl, rfl, Lib.hid (by simp)⟩
  case round =>
    obtain ⟨k, hk, rfl, rfl, hx⟩ := hrel
    by_cases hlt : k < n
    · have hi : k < l.length := by rw [HN.out]; exact hlt
      obtain ⟨y, hy⟩ : ∃ y, l[k]? = some y := ⟨_, List.getElem?_eq_getElem hi⟩
      obtain rfl := H2.out (by rw [HN.out]; omega)
      have k0 := H3.out k y hy
      unfold strV at k0
      have HY := Lib.hid hy
      clear hy
      by_cases he : x = y
      · subst he
        go_wp2
        go_ret
        exact ⟨_, rfl, ⟨fun _ => List.mem_of_getElem? HY.out, fun _ => by omega⟩, rfl⟩
      · have hb : (x == y) = false := by rw [beq_eq_false_iff_ne]; exact he
        go_wp2
        go_roundw
        case rel => exact ⟨k + 1, by omega, by go_num, by first | rfl | trivial, Lib.hid (mem_take_succ HY.out hx.out he)⟩
        case measure => simp [intOf]; omega
    · obtain rfl : k = n := by omega
      have := hx.out
      rw [List.take_of_length_le (by rw [HN.out]; exact Nat.le_refl _)] at this
      have HX := Lib.hid this
      clear this hx
      go_wp2
      go_ret
      exact ⟨-1, rfl, ⟨fun h => absurd h (by omega), fun h => absurd h HX.out⟩, rfl⟩
theorem has_any (x : List UInt8) (b : Nat) (f : Fm) (hl : f.2.length ≤ 2) (w : World) (hb : w.heap[b]? = some (formO f)) : Calls Tryd.prog 39 #[.pointer (some ⟨b, 0, none⟩), .string ⟨x.toArray⟩] w fun e w' => e = .returned (.bool (decide (x ∈ f.2))) ∧ Below w.heap.size w w' := by
  have HO := Lib.hid (operands_any b f hl w hb)
  have HP := fun (w' : World) (h : Below w.heap.size w w') => place_any x f.2 hl _ w' ((textR_form hl hb).below h)
  have HP' := Lib.hid HP
  clear HP hb
  go_enter Tryd.func39, Tryd.ntmps39
  go_wp2_with (first
    | (go_at_call 46; refine HO.out.mono ?_; rintro _ w1 ⟨rfl, hb1⟩; have HB := Lib.hid hb1; clear hb1)
    | (go_at_call 58; refine (HP'.out _ HB.out).mono ?_; rintro _ w2 ⟨z, rfl, hz, rfl⟩; have HZ := Lib.hid hz; clear hz))
  go_ret
  exact ⟨congrArg (fun b => Ending.returned (.bool b)) (decide_eq_decide.2 HZ.out), HB.out⟩
theorem isEmpty_mk {l : List UInt8} (h : l ≠ []) : l.isEmpty = false := by cases l <;> simp_all
theorem res_box {w w1 : World} (hb : Below w.heap.size w w1) (f : Fm) : (w1.alloc (formO f)).heap[w1.heap.size]? = some (formO f) ∧ Below w.heap.size w (w1.alloc (formO f)) := ⟨at_new _ _, hb.alloc hb.size _⟩
set_option maxHeartbeats 1000000 in
theorem size_any (op : Nat) (h : op < 256) (w : World) (hT : Tabs w) : Calls Tryd.prog 19 #[.int .u8 op] w fun e w' => e = .returned (.int .i64 (sizeF (formL op) : Nat)) ∧ Below w.heap.size w w' := by
  have HF := Lib.hid (of_any op h w hT)
  have hl := (size_form h).2.1
  clear hT
  generalize formL op = f at HF hl ⊢
  unfold formV at HF
  have h16 := fun b w hb => has_any d16L b f hl w hb
  have h8 := fun b w hb => has_any d8L b f hl w hb
  unfold sizeF
  by_cases h0 : f.1 = []
  · rw [if_pos h0]
    clear h16 h8
    go_enter Tryd.func19, Tryd.ntmps19
    go_wp2_with (go_at_call 38; refine HF.out.mono ?_; rintro _ w1 ⟨rfl, hb1⟩; have HB := Lib.hid hb1; clear hb1)
    go_ret
    exact ⟨rfl, HB.out.alloc HB.out.size _⟩
  · rw [if_neg h0]
    have hne := isEmpty_mk h0
    by_cases m16 : d16L ∈ f.2
    · rw [if_pos m16]
      rw [decide_eq_true m16] at h16
      have H16 := Lib.hid h16
      clear h16 h8 h0 m16
      go_enter Tryd.func19, Tryd.ntmps19
      go_wp2_with (first
        | (go_at_call 38; refine HF.out.mono ?_; rintro _ w1 ⟨rfl, hb1⟩; have HB := Lib.hid hb1; clear hb1)
        | (go_at_call 39; refine (H16.out _ _ (at_new _ _)).mono ?_; rintro _ w2 ⟨rfl, hb2⟩; have HB2 := Lib.hid hb2; clear hb2))
      go_ret
      exact ⟨rfl, below_step (HB.out.alloc HB.out.size _) HB2.out⟩
    · rw [if_neg m16]
      rw [decide_eq_false m16] at h16
      have H16 := Lib.hid h16
      by_cases m8 : d8L ∈ f.2
      · rw [if_pos m8]
        rw [decide_eq_true m8] at h8
        have H8 := Lib.hid h8
        clear h16 h8 h0 m16 m8
        go_enter Tryd.func19, Tryd.ntmps19
        go_wp2_with (first
          | (go_at_call 38; refine HF.out.mono ?_; rintro _ w1 ⟨rfl, hb1⟩; have HB := Lib.hid hb1; clear hb1)
          | (go_at_call 39; refine (H8.out _ _ (at_below HB2.out (at_new w1 _))).mono ?_; rintro _ w3 ⟨rfl, hb3⟩; have HB3 := Lib.hid hb3; clear hb3)
          | (go_at_call 39; refine (H16.out _ _ (at_new _ _)).mono ?_; rintro _ w2 ⟨rfl, hb2⟩; have HB2 := Lib.hid hb2; clear hb2))
        go_ret
        exact ⟨rfl, below_step (below_step (HB.out.alloc HB.out.size _) HB2.out) HB3.out⟩
      · rw [if_neg m8]
        rw [decide_eq_false m8] at h8
        have H8 := Lib.hid h8
        clear h16 h8 h0 m16 m8
        go_enter Tryd.func19, Tryd.ntmps19
        go_wp2_with (first
          | (go_at_call 38; refine HF.out.mono ?_; rintro _ w1 ⟨rfl, hb1⟩; have HB := Lib.hid hb1; clear hb1)
          | (go_at_call 39; refine (H8.out _ _ (at_below HB2.out (at_new w1 _))).mono ?_; rintro _ w3 ⟨rfl, hb3⟩; have HB3 := Lib.hid hb3; clear hb3)
          | (go_at_call 39; refine (H16.out _ _ (at_new _ _)).mono ?_; rintro _ w2 ⟨rfl, hb2⟩; have HB2 := Lib.hid hb2; clear hb2))
        go_ret
        exact ⟨rfl, below_step (below_step (HB.out.alloc HB.out.size _) HB2.out) HB3.out⟩
theorem args_any (op : Nat) (h : op < 256) (w : World) (hT : Tabs w) : Calls Tryd.prog 27 #[.int .u8 op] w fun e w' => ∃ v, e = .returned v ∧ TextR w' v (formL op).2 ∧ Below w.heap.size w w' := by
  have HF := Lib.hid (of_any op h w hT)
  have hl := (size_form h).2.1
  clear hT
  generalize formL op = f at HF hl ⊢
  unfold formV at HF
  have HO := Lib.hid (fun b w hb => operands_any b f hl w hb)
  have HL := Lib.hid hl
  clear hl
  obtain ⟨n, hn⟩ : ∃ n, f.2.length = n := ⟨_, rfl⟩
  have HN := Lib.hid hn
  rw [hn] at HO
  clear hn
  go_enter Tryd.func27, Tryd.ntmps27
  go_wp2_with (first
    | (go_at_call 38; refine HF.out.mono ?_; rintro _ w1 ⟨rfl, hb1⟩; have HB := Lib.hid hb1; clear hb1)
    | (go_at_call 46; refine (HO.out _ _ (at_new _ _)).mono ?_; rintro _ w2 ⟨rfl, hb2⟩; have HB2 := Lib.hid hb2; clear hb2)
    | (at_builtin; refine wpList_append_strs rfl (.const (.slice none 0 0)) (.tmp 6) rfl w.heap.size (.slice none 0 0) 0 [] rfl (World.ownsRow_nil _ _ _ _) (by omega) w1.heap.size 1 2 f.2 (by rw [HN.out]; rfl) (Nat.le_trans HL.out (by decide)) (form_cells HL.out (at_below HB2.out (at_new w1 _))) (below_step (HB.out.alloc HB.out.size _) HB2.out).size ?_; intro v3 w3 hown3 hb3; have HO3 := Lib.hid hown3; have HB3 := Lib.hid hb3; clear hown3 hb3))
  go_ret
  have hB := below_step (HB.out.alloc HB.out.size _) HB2.out
  exact ⟨_, rfl, textR_of_own HO3.out (by simp), hB.trans HB3.out⟩
end Go.Proofs.YtlindlmcojmhcaaDoor
