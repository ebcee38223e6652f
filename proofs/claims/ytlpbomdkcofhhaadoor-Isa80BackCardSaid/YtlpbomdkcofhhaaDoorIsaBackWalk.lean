/- The walk of Isa80Back: it answers true of any instruction and of any bytes behind it; the program's tables hold what its text says. -/
import Derived.Test.YtlpbomdkcofhhaaDoorIsaBack
import Derived.Test.YtlpbomdkcofhhaaDoorIsAlive
import Derived.Laws.AppendOwnNone
namespace Go.Proofs.YtlpbomdkcofhhaaDoor
open Go.RowKit

def bytV (l : List Nat) : List Value := l.map fun (x : Nat) => Value.int .u8 (x : Int)
theorem bytV_len (l : List Nat) : (bytV l).length = l.length := by simp [bytV]
theorem bytV_one (l : List Nat) : ∀ u ∈ bytV l, u.oneCell' = true := fun u hu => by
  obtain ⟨y, _, rfl⟩ := List.mem_map.1 hu
  rfl
theorem infoU8 : (Tryd.prog.info? 5).map (fun i => (i.zero, i.size, i.bytes)) = some (some (.int .u8 0), 1, 1) := by kernel_rfl
theorem add_at (b o j : Nat) : (⟨b, o, none⟩ : Addr).add j = ⟨b, o + j, none⟩ := by cases j <;> simp [Addr.add]
/-- what is known of a row of bytes, in the form in which rows are appended -/
theorem news_of {w : World} {b o : Nat} {l : List Nat} (h : ∀ i x, l[i]? = some x → x < 256 ∧ w.cell? ⟨b, o + i, none⟩ = some (.int .u8 (x : Nat))) : ∀ j u', (bytV l)[j]? = some u' → w.cell? ((⟨b, o, none⟩ : Addr).add j) = some u' := fun j u' hj => by
  unfold bytV at hj
  rw [List.getElem?_map] at hj
  obtain ⟨y, hy, rfl⟩ := Option.map_eq_some_iff.1 hj
  rw [add_at]
  exact (h j y hy).2
theorem byteR_of_own {W : World} {B : Nat} {e : TypeId} {v : Value} {n : Nat} {l : List Nat} (h : W.ownsRow B e 1 v n (bytV l)) (hn : l.length = n) (hl : ∀ (i x : Nat), l[i]? = some x → x < 256) : ByteR W v l := by
  obtain ⟨g, sp, c, rfl, h1, hc, h2⟩ := own_at h
  subst hn
  refine ⟨g, 0, sp, c, rfl, by omega, h1, fun i x hi => ⟨hl i x hi, ?_⟩⟩
  rw [Nat.zero_add]
  exact h2 _ _ (by simp [bytV, hi])
/-- to append a row of bytes to an empty one without room -/
theorem wpList_append_first {w : World} {ops : Array Oper} {rest : List Oper} {o : Oper} {a : Act} {Q : Exit → Act → World → Prop} (hgd : o.guard = none) (s x : Operand)
    (ho : o.op = .call { callee := .builtin .append, args := #[s, x], argTypes := #[30, 30] })
    (b : Nat) (hs : a.eval s = .slice (some ⟨b, 0, none⟩) 0 0) (v : Value) (l : List Nat) (hx : a.eval x = v) (hv : ByteR w v l) (hl : 0 < l.length) (hl3 : l.length ≤ 3)
    (h : ∀ v' w', w'.ownsRow w.heap.size 5 1 v' l.length (bytV l) → Below w.heap.size w w' → wpList Tryd.prog ops Q rest (a.put o.dst v') w') : wpList Tryd.prog ops Q (o :: rest) a w := by
  obtain ⟨i, p1, p2, p3, p4⟩ := info_parts infoU8
  obtain ⟨bb, oo, sp, c, rfl, hc, h2, h3⟩ := hv
  obtain rfl := h2 hl
  refine wpList_append_grows w hgd s x 30 ho 5 i (.int .u8 0) 1 1 Tryd.underlying30 p1 p2 p3 p4 rfl (by decide) (some ⟨b, 0, none⟩) 0 0 [] hs (by simp) (by simp) (by rintro b' e j u' hj; simp at hj) ⟨bb, oo, none⟩ l.length c (bytV l) hx (by rw [bytV_len]; omega) (news_of h3) (bytV_one l) (by omega) (by simp only [maxLen]; omega) (by omega) fun v' w' h2 h3 => ?_
  simp only [List.nil_append, Nat.zero_add] at h2
  exact h v' w' h2 ((Below.refl _ w).grown h3 (Nat.le_refl _) (fun r e => by cases e))
/-- to append a row of bytes to a row that a call owns -/
theorem wpList_append_bytes {w : World} {ops : Array Oper} {rest : List Oper} {o : Oper} {a : Act} {Q : Exit → Act → World → Prop} (hgd : o.guard = none) (s x : Operand)
    (ho : o.op = .call { callee := .builtin .append, args := #[s, x], argTypes := #[30, 30] })
    (base : Nat) (v : Value) (n : Nat) (l : List Nat) (hs : a.eval s = v) (hown : w.ownsRow base 5 1 v n (bytV l)) (hln : n ≤ 1000000)
    (sp : Option Addr) (len c : Nat) (m : List Nat) (hx : a.eval x = .slice sp len c) (hv : ByteR w (.slice sp len c) m) (hnone : sp = none → len = 0 ∧ c = 0) (hm : m.length ≤ 1000000) (hbase : base ≤ w.heap.size)
    (h : ∀ v' w', w'.ownsRow base 5 1 v' (n + m.length) (bytV (l ++ m)) → Below base w w' → wpList Tryd.prog ops Q rest (a.put o.dst v') w') : wpList Tryd.prog ops Q (o :: rest) a w := by
  obtain ⟨i, p1, p2, p3, p4⟩ := info_parts infoU8
  obtain ⟨bb, oo, sp', c', he, hc, h2, h3⟩ := hv
  simp only [Value.slice.injEq] at he
  obtain ⟨rfl, rfl, rfl⟩ := he
  cases sp with
  | none =>
    obtain ⟨h0, rfl⟩ := hnone rfl
    rw [h0] at hx
    have hm0 : m = [] := List.length_eq_zero_iff.1 h0
    subst hm0
    refine wpList_append_own_none hgd s x 30 ho base 5 i 1 Tryd.underlying30 p1 v n (bytV l) hs hown hx ?_
    exact h v w (by rw [List.append_nil]; exact hown) (Below.refl _ _)
  | some ad =>
    obtain ⟨ab, ao, spot⟩ := ad
    by_cases h0 : m.length = 0
    · have hm0 : m = [] := List.length_eq_zero_iff.1 h0
      subst hm0
      refine wpList_append_own w hgd s x 30 ho base 5 i (.int .u8 0) 1 1 Tryd.underlying30 p1 p2 p3 p4 rfl (by decide) v n (bytV l) hs hown _ 0 c [] hx rfl (by simp) (by simp) (by simp only [maxLen]; omega) (by omega) hbase ?_
      intro v' w' hown' hg _
      refine h v' w' (by rw [List.append_nil] at hown' ⊢; exact hown') ((Below.refl base w).grown hg hbase fun r er => ?_)
      rcases Nat.lt_or_ge r base with hr | hr
      · exact absurd er (own_old hown hr)
      · exact hr
    · have hsp := h2 (by omega)
      rw [hsp] at hx
      refine wpList_append_own w hgd s x 30 ho base 5 i (.int .u8 0) 1 1 Tryd.underlying30 p1 p2 p3 p4 rfl (by decide) v n (bytV l) hs hown ⟨bb, oo, none⟩ m.length c (bytV m) hx (by rw [bytV_len]; omega) (news_of h3) (bytV_one m) (by simp only [maxLen]; omega) (by omega) hbase ?_
      intro v' w' hown' hg _
      refine h v' w' (by unfold bytV; rw [List.map_append]; exact hown') ((Below.refl base w).grown hg hbase fun r er => ?_)
      rcases Nat.lt_or_ge r base with hr | hr
      · exact absurd er (own_old hown hr)
      · exact hr
theorem byteR_mk {w : World} {b o c : Nat} {sp : Option Addr} {l : List Nat} (hc : l.length ≤ c) (h2 : 0 < l.length → sp = some ⟨b, o, none⟩) (h3 : ∀ i x, l[i]? = some x → x < 256 ∧ w.cell? ⟨b, o + i, none⟩ = some (.int .u8 (x : Nat))) : ByteR w (.slice sp l.length c) l := ⟨b, o, sp, c, rfl, hc, h2, h3⟩
theorem byteR_form {w : World} {v : Value} {l : List Nat} {n : Nat} (h : ByteR w v l) (hn : l.length = n) : ∃ sp c, v = .slice sp n c := by
  obtain ⟨b, o, sp, c, rfl, _⟩ := h
  exact ⟨sp, c, by rw [hn]⟩
theorem byteR_take {w : World} {a : Option Addr} {len cap : Nat} {l : List Nat} {r : Nat} (h : ByteR w (.slice a len cap) l) (hr : r ≤ l.length) : ByteR w (.slice a r cap) (l.take r) := by
  obtain ⟨b, o, sp, c, he, hc, h2, h3⟩ := h
  simp only [Value.slice.injEq] at he
  obtain ⟨rfl, rfl, rfl⟩ := he
  have e : (l.take r).length = r := by simp; omega
  refine ⟨b, o, a, cap, by rw [e], by rw [e]; omega, fun hp => h2 (by rw [e] at hp; omega), fun i x hx => h3 i x ?_⟩
  have hi : i < r := by have := (List.getElem?_eq_some_iff.1 hx).1; rwa [e] at this
  rwa [List.getElem?_take_of_lt hi] at hx
theorem ByteR.take {w : World} {a : Option Addr} {len cap : Nat} {l : List Nat} {r : Nat} (h : ByteR w (.slice a len cap) l) (hr : r ≤ l.length) : ByteR w (.slice a r cap) (l.take r) := byteR_take h hr
theorem ByteR.lt {w : World} {v : Value} {l : List Nat} (h : ByteR w v l) : ∀ (i x : Nat), l[i]? = some x → x < 256 := fun i x hx => by
  obtain ⟨b, o, sp, c, _, _, _, h3⟩ := h
  exact (h3 i x hx).1
theorem app_lt {l m : List Nat} (hl : ∀ (i x : Nat), l[i]? = some x → x < 256) (hm : ∀ (i x : Nat), m[i]? = some x → x < 256) : ∀ (i x : Nat), (l ++ m)[i]? = some x → x < 256 := fun i x hx => by
  have hmem := List.mem_of_getElem? hx
  rcases List.mem_append.1 hmem with h | h
  · obtain ⟨j, hj⟩ := List.mem_iff_getElem?.1 h; exact hl j x hj
  · obtain ⟨j, hj⟩ := List.mem_iff_getElem?.1 h; exact hm j x hj
theorem bytesS_lt {op n : Nat} (h : op < 256) (hn : n < 65536) (s : Nat) : ∀ (i x : Nat), (bytesS s op n).1[i]? = some x → x < 256 := fun i x hx => by
  have hmem := List.mem_of_getElem? hx
  unfold bytesS at hmem
  split at hmem
  · simp at hmem
  · split at hmem
    · split at hmem
      · simp at hmem; omega
      · simp at hmem
    · split at hmem
      · split at hmem
        · simp at hmem; omega
        · simp at hmem
      · simp at hmem; omega
theorem bytesS_pos {s op n : Nat} (h : (bytesS s op n).2 = 0) : 0 < (bytesS s op n).1.length ∧ (bytesS s op n).1.length ≤ 3 := by
  unfold bytesS at *
  split
  · rename_i e; rw [if_pos e] at h; simp at h
  · rename_i e
    rw [if_neg e] at h
    split
    · rename_i e1
      rw [if_pos e1] at h
      split
      · simp
      · rename_i e2; rw [if_neg e2] at h; simp at h
    · rename_i e1
      rw [if_neg e1] at h
      split
      · rename_i e2
        rw [if_pos e2] at h
        split
        · simp
        · rename_i e3; rw [if_neg e3] at h; simp at h
      · simp
set_option maxRecDepth 100000 in
set_option maxHeartbeats 8000000 in
theorem isa80Back_walk (op n : Nat) (h : op < 256) (hn : n < 65536) (a : Option Addr) (len cap : Nat) (l : List Nat) (w : World) (hv : ByteR w (.slice a len cap) l) (hnone : a = none → len = 0 ∧ cap = 0) (hT : Tabs w) : Calls Tryd.prog 6 #[.int .u8 op, .int .u16 n, .slice a len cap] w fun e w' => e = .returned (.bool true) ∧ Below w.heap.size w w' := by
  have hlen : l.length = len ∧ len ≤ cap := by
    obtain ⟨b, o, sp, c, e, hc, _⟩ := hv
    simp only [Value.slice.injEq] at e
    obtain ⟨_, rfl, rfl⟩ := e
    exact ⟨rfl, hc⟩
  have HA := Lib.hid (fun w hT => alive_any w hT)
  have HV := Lib.hid hv
  have HT := Lib.hid hT
  have HN := Lib.hid hnone
  have HLT := Lib.hid hv.lt
  clear hv hT hnone
  by_cases h1000 : 1000 < len
  · have hb : decide ((1000 : Int) < len) = true := decide_eq_true (by omega)
    go_enter Tryd.func6, Tryd.ntmps6
    go_wp2_with (go_at_call 16; refine (HA.out _ HT.out).mono ?_; rintro _ w8 ⟨rfl, hb⟩; have B8 := Lib.hid hb; clear hb)
    go_ret
    exact ⟨rfl, B8.out⟩
  have hb : decide ((1000 : Int) < len) = false := decide_eq_false (by omega)
  have H1 := Lib.hid (fun w hT => bytes_any op n h hn w hT)
  have HP := Lib.hid (fun bs hbs => put_read (n := n) h (bs := bs) hbs l)
  have HBL := Lib.hid (bytesS_lt h hn (sizeF (formL op)))
  have HBP := Lib.hid (bytesS_pos (s := sizeF (formL op)) (op := op) (n := n))
  have HL : Hid (l.length ≤ 1000) := Lib.hid (by omega)
  generalize bytesS (sizeF (formL op)) op n = B at H1 HP HBL HBP
  obtain ⟨bs, k⟩ := B
  simp only at H1 HBL HBP
  have HR2 := Lib.hid (fun v w hv hT => read_any l (Nat.le_trans HL.out (by decide)) v w hv hT)
  have HRP := Lib.hid (fun op n s (h : readL l = (op, n, s, 0)) => read_put HLT.out h)
  have HRN := Lib.hid (read_none (l := l))
  generalize hR : readL l = R at HR2 HRP HRN
  obtain ⟨ro, rn, rs, rk⟩ := R
  simp only at HR2 HRN
  clear hR
  have hcap := hlen.2
  have hll := hlen.1
  clear hlen h1000
  by_cases hk : k = 0
  · subst hk
    have H0 := Lib.hid (HBP.out rfl).1
    have H3 := Lib.hid (HBP.out rfl).2
    have HJ := Lib.hid (app_lt HBL.out HLT.out)
    have hr1 := fun v w hv hT => read_any (bs ++ l) (by rw [List.length_append]; have := H3.out; have := HL.out; omega) v w hv hT
    rw [HP.out bs rfl] at hr1
    have HR1 := Lib.hid hr1
    clear hr1
    by_cases hrk : rk = 0
    · subst hrk
      obtain ⟨ho, hn2, hs, hle, hbb⟩ := HRP.out ro rn rs rfl
      have h2 := fun w hT => bytes_any ro rn ho hn2 w hT
      rw [← hs, hbb] at h2
      have hx := fun va vb w ha hb => byteseq_any (l.take rs) (l.take rs) (Nat.le_trans (List.length_take_le _ _) (Nat.le_trans hle (Nat.le_trans HL.out (by decide)))) va vb w ha hb
      rw [decide_eq_true (rfl : l.take rs = l.take rs)] at hx
      have htl : (l.take rs).length = rs := by simp; omega
      have hv2 := HV.out.take hle
      generalize l.take rs = ts at hx h2 htl hv2
      have HX := Lib.hid hx
      have H2 := Lib.hid h2
      have HTL := Lib.hid htl
      have HV2 := Lib.hid hv2
      clear htl hv2
      have hrc : (rs : Int) ≤ cap := by omega
      clear h2 hx hs hbb hle
      go_enter Tryd.func6, Tryd.ntmps6
      go_wp2_with (first
        | (go_at_call 19; refine (HR2.out _ _ (HV.out.below B4.out) (HT.out.below B4.out)).mono ?_; rintro _ w5 ⟨rfl, hb1⟩; have B5 := Lib.hid ((below_step B4.out hb1).alloc (below_step B4.out hb1).size (.cells #[.int .u8 (ro : Nat), .int .u16 (rn : Nat)] 35)); clear hb1)
        | (go_at_call 17; refine (H2.out _ (HT.out.below B5.out)).mono ?_; rintro _ w6 ⟨v6, rfl, hR6, hb1⟩; obtain ⟨sp6, c6, rfl⟩ := byteR_form hR6 HTL.out; have R6 := Lib.hid hR6; have B6 := Lib.hid (below_step B5.out hb1); clear hb1 hR6)
        | (go_at_call 21; refine (HX.out _ _ _ R6.out (HV2.out.below B6.out)).mono ?_; rintro _ w7 ⟨rfl, hb1⟩; have B7 := Lib.hid (below_step B6.out hb1); clear hb1)
        | (go_at_call 16; refine (HA.out _ (HT.out.below B7.out)).mono ?_; rintro _ w8 ⟨rfl, hb1⟩; have B8 := Lib.hid (below_step B7.out hb1); clear hb1)
        | (go_at_call 17; refine (H1.out _ HT.out).mono ?_; rintro _ w1 ⟨v1, rfl, ⟨b1, o1, sp1, c1, rfl, g1, g2, g3⟩, hb1⟩; have R1 := Lib.hid (byteR_mk g1 g2 g3); have B1 := Lib.hid hb1; clear hb1 g1 g2 g3 H1)
        | (at_builtin; refine wpList_append_first rfl (.tmp 31) (.tmp 32) rfl w1.heap.size rfl _ bs rfl (R1.out.alloc _) H0.out H3.out ?_; intro v2 w2 ho2 hb2; have O2 := Lib.hid ho2; have B2 := Lib.hid (below_new _ hb2); have S2 := Lib.hid hb2.size; clear ho2 hb2)
        | (at_builtin; refine wpList_append_bytes rfl (.tmp 33) (.tmp 34) rfl (w1.alloc (.cells #[] 5)).heap.size v2 bs.length bs rfl O2.out (Nat.le_trans H3.out (by decide)) a len cap l rfl (HV.out.below (below_step B1.out B2.out)) HN.out (Nat.le_trans HL.out (by decide)) S2.out ?_; intro v3 w3 ho3 hb3; have R3 := Lib.hid (byteR_of_own ho3 (by simp) HJ.out); have B3 := Lib.hid (below_step B1.out (B2.out.trans (hb3.mono (by simp)))); clear ho3 hb3)
        | (go_at_call 19; refine (HR1.out v3 _ R3.out (HT.out.below B3.out)).mono ?_; rintro _ w4 ⟨rfl, hb1⟩; have B4 := Lib.hid ((below_step B3.out hb1).alloc (below_step B3.out hb1).size (.cells #[.int .u8 (op : Nat), .int .u16 (n : Nat)] 35)); clear hb1))
      go_ret
      exact ⟨rfl, B8.out⟩
    · have hz := HRN.out hrk
      subst hz
      have hbk : ((rk : Int) != 0) = true := by rw [bne_iff_ne]; omega
      go_enter Tryd.func6, Tryd.ntmps6
      go_wp2_with (first
        | (go_at_call 19; refine (HR2.out _ _ (HV.out.below B4.out) (HT.out.below B4.out)).mono ?_; rintro _ w5 ⟨rfl, hb1⟩; have B5 := Lib.hid ((below_step B4.out hb1).alloc (below_step B4.out hb1).size (.cells #[.int .u8 (ro : Nat), .int .u16 (rn : Nat)] 35)); clear hb1)
        | (go_at_call 16; refine (HA.out _ (HT.out.below B5.out)).mono ?_; rintro _ w8 ⟨rfl, hb1⟩; have B8 := Lib.hid (below_step B5.out hb1); clear hb1)
        | (go_at_call 17; refine (H1.out _ HT.out).mono ?_; rintro _ w1 ⟨v1, rfl, ⟨b1, o1, sp1, c1, rfl, g1, g2, g3⟩, hb1⟩; have R1 := Lib.hid (byteR_mk g1 g2 g3); have B1 := Lib.hid hb1; clear hb1 g1 g2 g3 H1)
        | (at_builtin; refine wpList_append_first rfl (.tmp 31) (.tmp 32) rfl w1.heap.size rfl _ bs rfl (R1.out.alloc _) H0.out H3.out ?_; intro v2 w2 ho2 hb2; have O2 := Lib.hid ho2; have B2 := Lib.hid (below_new _ hb2); have S2 := Lib.hid hb2.size; clear ho2 hb2)
        | (at_builtin; refine wpList_append_bytes rfl (.tmp 33) (.tmp 34) rfl (w1.alloc (.cells #[] 5)).heap.size v2 bs.length bs rfl O2.out (Nat.le_trans H3.out (by decide)) a len cap l rfl (HV.out.below (below_step B1.out B2.out)) HN.out (Nat.le_trans HL.out (by decide)) S2.out ?_; intro v3 w3 ho3 hb3; have R3 := Lib.hid (byteR_of_own ho3 (by simp) HJ.out); have B3 := Lib.hid (below_step B1.out (B2.out.trans (hb3.mono (by simp)))); clear ho3 hb3)
        | (go_at_call 19; refine (HR1.out v3 _ R3.out (HT.out.below B3.out)).mono ?_; rintro _ w4 ⟨rfl, hb1⟩; have B4 := Lib.hid ((below_step B3.out hb1).alloc (below_step B3.out hb1).size (.cells #[.int .u8 (op : Nat), .int .u16 (n : Nat)] 35)); clear hb1))
      go_ret
      exact ⟨rfl, B8.out⟩
  · have hbk0 : ((k : Int) == 0) = false := by rw [beq_eq_false_iff_ne]; omega
    by_cases hrk : rk = 0
    · subst hrk
      obtain ⟨ho, hn2, hs, hle, hbb⟩ := HRP.out ro rn rs rfl
      have h2 := fun w hT => bytes_any ro rn ho hn2 w hT
      rw [← hs, hbb] at h2
      have hx := fun va vb w ha hb => byteseq_any (l.take rs) (l.take rs) (Nat.le_trans (List.length_take_le _ _) (Nat.le_trans hle (Nat.le_trans HL.out (by decide)))) va vb w ha hb
      rw [decide_eq_true (rfl : l.take rs = l.take rs)] at hx
      have htl : (l.take rs).length = rs := by simp; omega
      have hv2 := HV.out.take hle
      generalize l.take rs = ts at hx h2 htl hv2
      have HX := Lib.hid hx
      have H2 := Lib.hid h2
      have HTL := Lib.hid htl
      have HV2 := Lib.hid hv2
      clear htl hv2
      have hrc : (rs : Int) ≤ cap := by omega
      clear h2 hx hs hbb hle
      go_enter Tryd.func6, Tryd.ntmps6
      go_wp2_with (first
        | (go_at_call 19; refine (HR2.out _ _ (HV.out.below B1.out) (HT.out.below B1.out)).mono ?_; rintro _ w5 ⟨rfl, hb1⟩; have B5 := Lib.hid ((below_step B1.out hb1).alloc (below_step B1.out hb1).size (.cells #[.int .u8 (ro : Nat), .int .u16 (rn : Nat)] 35)); clear hb1)
        | (go_at_call 17; refine (H2.out _ (HT.out.below B5.out)).mono ?_; rintro _ w6 ⟨v6, rfl, hR6, hb1⟩; obtain ⟨sp6, c6, rfl⟩ := byteR_form hR6 HTL.out; have R6 := Lib.hid hR6; have B6 := Lib.hid (below_step B5.out hb1); clear hb1 hR6)
        | (go_at_call 21; refine (HX.out _ _ _ R6.out (HV2.out.below B6.out)).mono ?_; rintro _ w7 ⟨rfl, hb1⟩; have B7 := Lib.hid (below_step B6.out hb1); clear hb1)
        | (go_at_call 16; refine (HA.out _ (HT.out.below B7.out)).mono ?_; rintro _ w8 ⟨rfl, hb1⟩; have B8 := Lib.hid (below_step B7.out hb1); clear hb1)
        | (go_at_call 17; refine (H1.out _ HT.out).mono ?_; rintro _ w1 ⟨v1, rfl, ⟨b1, o1, sp1, c1, rfl, g1, g2, g3⟩, hb1⟩; have R1 := Lib.hid (byteR_mk g1 g2 g3); have B1 := Lib.hid hb1; clear hb1 g1 g2 g3 H1))
      go_ret
      exact ⟨rfl, B8.out⟩
    · have hz := HRN.out hrk
      subst hz
      have hbk : ((rk : Int) != 0) = true := by rw [bne_iff_ne]; omega
      go_enter Tryd.func6, Tryd.ntmps6
      go_wp2_with (first
        | (go_at_call 19; refine (HR2.out _ _ (HV.out.below B1.out) (HT.out.below B1.out)).mono ?_; rintro _ w5 ⟨rfl, hb1⟩; have B5 := Lib.hid ((below_step B1.out hb1).alloc (below_step B1.out hb1).size (.cells #[.int .u8 (ro : Nat), .int .u16 (rn : Nat)] 35)); clear hb1)
        | (go_at_call 16; refine (HA.out _ (HT.out.below B5.out)).mono ?_; rintro _ w8 ⟨rfl, hb1⟩; have B8 := Lib.hid (below_step B5.out hb1); clear hb1)
        | (go_at_call 17; refine (H1.out _ HT.out).mono ?_; rintro _ w1 ⟨v1, rfl, ⟨b1, o1, sp1, c1, rfl, g1, g2, g3⟩, hb1⟩; have R1 := Lib.hid (byteR_mk g1 g2 g3); have B1 := Lib.hid hb1; clear hb1 g1 g2 g3 H1))
      go_ret
      exact ⟨rfl, B8.out⟩
end Go.Proofs.YtlpbomdkcofhhaaDoor
