/- What Cut of token does when it is called: the parts between marks, each in a row of its own; at most 1000000 tokens. -/
import Derived.Test.YtblbcdofiheikaaDoorParts
import Derived.Test.YtblbcdofiheikaaDoorBack
import Derived.Test.YtblbcdofiheikaaDoorShelfC
namespace Go.Proofs.YtblbcdofiheikaaDoor
open Go.RowKit Go.Proofs.NumMath

theorem bytes_eq (a b : List UInt8) : ((⟨a.toArray⟩ : ByteArray) = ⟨b.toArray⟩) ↔ a = b :=
  ⟨fun h => by have := congrArg (fun z : ByteArray => z.data.toList) h; simpa using this, fun h => by rw [h]⟩
/-- what the closure answers: a mark of one of these texts? -/
def isAny (ys : List ByteArray) (x : Tok) : Bool := decide (x.k = 4) && Lib.containsS ys ⟨x.s.toArray⟩
theorem isAny_two (a b : List UInt8) (x : Tok) : isAny [⟨a.toArray⟩, ⟨b.toArray⟩] x = (isM a x || isM b x) := by
  unfold isAny isM
  rw [Bool.eq_iff_iff]
  simp only [Bool.and_eq_true, Bool.or_eq_true, decide_eq_true_eq, Lib.containsS_iff, List.mem_cons, List.not_mem_nil, or_false, bytes_eq]
  constructor
  · rintro ⟨h, h1 | h1⟩
    · exact .inl ⟨h, h1⟩
    · exact .inr ⟨h, h1⟩
  · rintro (⟨h, h1⟩ | ⟨h, h1⟩)
    · exact ⟨h, .inl h1⟩
    · exact ⟨h, .inr h1⟩
theorem isAny_one (a : List UInt8) (x : Tok) : isAny [⟨a.toArray⟩] x = isM a x := by
  unfold isAny isM
  rw [Bool.eq_iff_iff]
  simp only [Bool.and_eq_true, decide_eq_true_eq, Lib.containsS_iff, List.mem_cons, List.not_mem_nil, or_false, bytes_eq]
theorem is_any (b g c : Nat) (ys : List ByteArray) (x : Tok) (t : TypeId) (fr : Nat × Nat) (w : World) (hys : ys.length ≤ 100) (hbox : w.heap[b]? = some (.cells #[.int .i64 x.k, .string ⟨x.s.toArray⟩, .int .u16 (x.n : Nat)] t (0, 0)))
    (hstr : w.heap[g]? = some (.cells (ys.map Value.string).toArray 9 fr)) : Calls Tryd.prog 26 #[.slice (some ⟨g, 0, none⟩) ys.length c, .pointer (some ⟨b, 0, none⟩)] w fun e w' => e = .returned (.bool (isAny ys x)) ∧ w' = w := by
  obtain ⟨⟨k0, k1, k2⟩, _⟩ := three hbox
  have hc := fun W h => Tryd.slices_Contains_string g 0 ys.length c ys ⟨x.s.toArray⟩ W (Nat.le_refl _) (by omega) h
  have hcell : ∀ j, j < ys.length → w.cell? ⟨g, 0 + j, none⟩ = some (.string (ys.getD j ByteArray.empty)) := fun j hj => by
    rw [Nat.zero_add, cell_of_row w g j _ 9 fr hstr]
    simp [List.getD_eq_getElem?_getD, hj]
  have hC := hc w hcell
  rw [List.take_length] at hC
  unfold isAny
  obtain ⟨n, hn⟩ : ∃ n, ys.length = n := ⟨_, rfl⟩
  obtain ⟨T, hT⟩ : ∃ T : ByteArray, (⟨x.s.toArray⟩ : ByteArray) = T := ⟨_, rfl⟩
  obtain ⟨r, hr⟩ : ∃ r, Lib.containsS ys T = r := ⟨_, rfl⟩
  rw [hT] at hC k1 ⊢
  rw [hr] at hC ⊢
  rw [hn] at hC ⊢
  clear hr hT hn hc hcell hstr hbox hys
  by_cases h4 : x.k = 4
  · rw [h4] at k0
    have hd : decide (x.k = 4) = true := decide_eq_true h4
    rw [hd]
    clear h4 hd
    go_enter Tryd.func26, Tryd.ntmps26
    go_wp2_with (go_at_call 27; refine hC.mono ?_; rintro e w' ⟨rfl, rfl⟩)
    go_ret
    exact ⟨ret_bool (by simp), rfl⟩
  · have h4n : (x.k == 4) = false := by rw [beq_eq_false_iff_ne]; exact h4
    have hd : decide (x.k = 4) = false := decide_eq_false h4
    rw [hd]
    clear h4 hd
    go_enter Tryd.func26, Tryd.ntmps26
    go_wp2
    go_ret
    exact ⟨ret_bool (by simp), rfl⟩

theorem step_append_part {w : World} {ops : Array Oper} {o : Oper} {a : Act} {K : Act → World → Prop} {Q : Exit → Act → World → Prop} {E : Prop} (hgd : o.guard = none) (s x : Operand)
    (ho : o.op = .call { callee := .builtin .append, args := #[s, x], argTypes := #[23, 23] })
    (base : Nat) (v : Value) (n : Nat) (l : List Tok) (hs : a.eval s = v) (hown : w.ownsRow base 42 3 v n (toks l)) (hln : n ≤ 1000000)
    (k c : Nat) (y : Tok) (v0 v1 v2 : Value) (t' : TypeId) (fr : Nat × Nat) (hx : a.eval x = .slice (some ⟨k, 0, none⟩) 1 c) (hb : w.heap[k]? = some (.cells #[v0, v1, v2] t' fr)) (hy : [v0, v1, v2] = tcells y) (hbase : base ≤ w.heap.size) (H : Nat) (hH : w.heap.size = H)
    (h : ∀ g cap w', w'.ownsRow base 42 3 (.slice (some ⟨g, 0, none⟩) (n + 1) cap) (n + 1) (toks (l ++ [y])) → w.grownBy w' v.ownBlock → (v.ownBlock = some g ∨ g = H) → g < w'.heap.size → K (a.put o.dst (.slice (some ⟨g, 0, none⟩) (n + 1) cap)) w') : if Region.wanted o (yielded ops a.tmps) = true then Oper.wp Tryd.prog o a w K Q else E := by
  obtain ⟨i, p1, p2, p3, p4⟩ := info_parts zero42
  refine step_append_lies w hgd s x 23 ho base 42 i (.agg #[.int .i64 0, .string ⟨#[]⟩, .int .u16 0]) 3 32 Tryd.underlying23 p1 p2 p3 p4 rfl (by decide) v n (toks l) hs hown ⟨k, 0, none⟩ 1 c [v0, v1, v2] hx rfl (three_at hb) (by rw [hy]; exact tcells_one y)
    (by omega) (by simp only [maxLen]; omega) (by omega) hbase H hH ?_
  intro g cap w' hown' hg hat hlt
  exact h g cap w' (by rw [toks_snoc, ← hy]; exact hown') hg hat hlt
/-- a round's state: the parts so far, and the token in its box -/
structure At (w W : World) (bx : Nat) (x : Tok) (v : Value) (ps : List Part) : Prop where
  parts : PartsAt W w.heap.size v ps
  box : W.heap[bx]? = some (.cells #[.int .i64 x.k, .string ⟨x.s.toArray⟩, .int .u16 (x.n : Nat)] 42 (0, 0))
  below : Below w.heap.size w W
theorem At.alloc {w W : World} {bx : Nat} {x : Tok} {v : Value} {ps : List Part} (h : At w W bx x v ps) (o : Obj) : At w (W.alloc o) bx x v ps :=
  ⟨h.parts.below ((Below.refl _ _).alloc (Nat.le_refl _) _), at_old h.box, h.below.alloc h.below.size o⟩
theorem At.first {w wr : World} {x : Tok} {v : Value} {ps : List Part} (hP : PartsAt wr w.heap.size v ps) (hB : Below w.heap.size w wr) :
    At w (wr.alloc (.cells #[.int .i64 x.k, .string ⟨x.s.toArray⟩, .int .u16 (x.n : Nat)] 42)) wr.heap.size x v ps :=
  ⟨hP.below ((Below.refl _ _).alloc (Nat.le_refl _) _), at_new wr _, hB.alloc hB.size _⟩
theorem At.apart {w W : World} {bx : Nat} {x : Tok} {v : Value} {ps : List Part} (h : At w W bx x v ps) : some bx ≠ v.ownBlock := fun e => by
  obtain ⟨c, hc⟩ := own_tag h.parts.row e.symm
  have hb := h.box
  rw [hc] at hb
  have := (Obj.cells.inj (Option.some.inj hb)).2.1
  exact absurd this (by decide)
theorem At.marked {w W w' : World} {bx : Nat} {x : Tok} {v v' : Value} {ps ps' : List Part} (h : At w W bx x v ps) (hP : PartsAt w' w.heap.size v' ps') (hg : W.grownBy w' v.ownBlock) : At w w' bx x v' ps' :=
  ⟨hP, (hg.block bx (lt_of_block h.box) h.apart).trans h.box, h.below.grown hg h.below.size fun k hk => (h.parts.row.lt k hk).1⟩
theorem wpList_append_nilpart {w : World} {ops : Array Oper} {rest : List Oper} {o : Oper} {a : Act} {Q : Exit → Act → World → Prop} (hgd : o.guard = none) (s x : Operand)
    (ho : o.op = .call { callee := .builtin .append, args := #[s, x], argTypes := #[36, 36] }) (base : Nat) (v : Value) (ps : List Part) (hs : a.eval s = v) (hP : PartsAt w base v ps) (hln : ps.length ≤ 1000000)
    (k c : Nat) (t' : TypeId) (fr : Nat × Nat) (hx : a.eval x = .slice (some ⟨k, 0, none⟩) 1 c) (hb : w.heap[k]? = some (.cells #[.slice none 0 0] t' fr)) (hbase : base ≤ w.heap.size)
    (h : ∀ v' w', PartsAt w' base v' (([], .slice none 0 0) :: ps) → w.grownBy w' v.ownBlock → wpList Tryd.prog ops Q rest (a.put o.dst v') w') : wpList Tryd.prog ops Q (o :: rest) a w := by
  obtain ⟨i, p1, p2, p3, p4⟩ := info_parts zero23
  refine wpList_append_own w hgd s x 36 ho base 23 i (.slice none 0 0) 1 24 Tryd.underlying36 p1 p2 p3 p4 rfl (by decide) v ps.length (pcells ps) hs hP.row ⟨k, 0, none⟩ 1 c [.slice none 0 0] hx rfl (World.news_of_block hb) (by simp [Value.oneCell'])
    (by simp only [maxLen]; omega) (by omega) hbase ?_
  intro v' w' hown' hg _
  exact h v' w' (hP.add hown' hg) hg
theorem At.drewn {w W : World} {bx : Nat} {x : Tok} {v : Value} {ps : List Part} (h : At w W bx x v ps) (O : Obj) : At w (W.drew.alloc O) bx x v ps := by
  have h1 : At w W.drew bx x v ps := ⟨⟨h.parts.row, h.parts.toks, h.parts.apart⟩, h.box, h.below.drew⟩
  exact h1.alloc O
theorem far_of {w W : World} {bx : Nat} {x : Tok} {g cap : Nat} {vb : Value} {p : List Tok} {t : List Part} (h : At w W bx x (.slice (some ⟨g, 0, none⟩) (t.length + 1) cap) ((p, vb) :: t)) : some g ≠ vb.ownBlock := by
  rcases own_apart (h.parts.toks _ (List.mem_cons_self ..)) h.parts.row (by decide) with h1 | h1
  · intro e; simp only at h1; rw [h1] at e; cases e
  · exact fun e => h1 e.symm
/-- what stands of the last part's place while a token is put behind the last part -/
theorem At.stays {w W w1 : World} {bx : Nat} {x : Tok} {g cap : Nat} {vb : Value} {p : List Tok} {t : List Part} {O : Obj} (h : At w W bx x (.slice (some ⟨g, 0, none⟩) (t.length + 1) cap) ((p, vb) :: t)) (hg : (W.drew.alloc O).grownBy w1 vb.ownBlock) :
    w1.cell? ⟨g, t.length, none⟩ = some vb ∧ w1.frozen? ⟨g, t.length, none⟩ = false := by
  have hd := h.drewn O
  obtain ⟨l1, l2⟩ := hd.parts.last
  exact ⟨hg.cell l1 (far_of h), (World.frozen?_of_block (hg.block g (hd.parts.row.lt g rfl).2 (far_of h))).trans l2⟩
theorem At.longer {w W w1 : World} {bx : Nat} {x : Tok} {g cap gg cap2 : Nat} {vb : Value} {p : List Tok} {t : List Part} {O : Obj} (h : At w W bx x (.slice (some ⟨g, 0, none⟩) (t.length + 1) cap) ((p, vb) :: t)) (hfar : ∀ q, vb.ownBlock = some q → q < bx)
    (hown : w1.ownsRow w.heap.size 42 3 (.slice (some ⟨gg, 0, none⟩) (p.length + 1) cap2) (p.length + 1) (Go.Proofs.YtblbcdofiheikaaDoor.toks (p ++ [x]))) (hg : (W.drew.alloc O).grownBy w1 vb.ownBlock) (hat : vb.ownBlock = some gg ∨ gg = W.heap.size + 1) :
    At w (w1.setCell ⟨g, t.length, none⟩ (.slice (some ⟨gg, 0, none⟩) (p.length + 1) cap2)) bx x (.slice (some ⟨g, 0, none⟩) (t.length + 1) cap) ((p ++ [x], .slice (some ⟨gg, 0, none⟩) (p.length + 1) cap2) :: t) := by
  have hd := h.drewn O
  refine ⟨hd.parts.longer hown hg (hat.imp (fun e => e.symm) fun e => ⟨gg, rfl, by rw [e]; simp⟩), ?_, ?_⟩
  · refine (Below.heap_setCell w1 ⟨g, t.length, none⟩ _ bx (fun e => hd.apart (congrArg some e))).trans ?_
    exact (hg.block bx (lt_of_block hd.box) (fun e => by have := hfar bx e.symm; omega)).trans hd.box
  · refine (hd.below.grown hg hd.below.size fun k hk => ?_).setCell (p := ⟨g, t.length, none⟩) (hd.parts.row.lt g rfl).1 _
    exact ((hd.parts.toks _ (List.mem_cons_self ..)).lt k hk).1
theorem is_close {w W : World} {bx : Nat} {x : Tok} {v : Value} {ps : List Part} (h : At w W bx x v ps) (S : Nat) (hS : W.heap.size = S) :
    Calls Tryd.prog 26 #[.slice (some ⟨S, 0, none⟩) 2 2, .pointer (some ⟨bx, 0, none⟩)] (W.alloc (.cells #[.string ⟨#[41]⟩, .string ⟨#[93]⟩] 9)) fun e w' => e = .returned (.bool (closes x)) ∧ At w w' bx x v ps := by
  subst hS
  have := is_any bx W.heap.size 2 [⟨#[41]⟩, ⟨#[93]⟩] x 42 (0, 0) _ (by decide) (at_old (o := .cells #[.string ⟨#[41]⟩, .string ⟨#[93]⟩] 9) h.box) (at_new W _)
  rw [show isAny [⟨#[41]⟩, ⟨#[93]⟩] x = closes x from isAny_two [41] [93] x] at this
  exact this.mono fun e w' ⟨he, hw⟩ => ⟨he, hw ▸ h.alloc _⟩
theorem is_open {w W : World} {bx : Nat} {x : Tok} {v : Value} {ps : List Part} (h : At w W bx x v ps) (S : Nat) (hS : W.heap.size = S) :
    Calls Tryd.prog 26 #[.slice (some ⟨S, 0, none⟩) 2 2, .pointer (some ⟨bx, 0, none⟩)] (W.alloc (.cells #[.string ⟨#[40]⟩, .string ⟨#[91]⟩] 9)) fun e w' => e = .returned (.bool (opens x)) ∧ At w w' bx x v ps := by
  subst hS
  have := is_any bx W.heap.size 2 [⟨#[40]⟩, ⟨#[91]⟩] x 42 (0, 0) _ (by decide) (at_old (o := .cells #[.string ⟨#[40]⟩, .string ⟨#[91]⟩] 9) h.box) (at_new W _)
  rw [show isAny [⟨#[40]⟩, ⟨#[91]⟩] x = opens x from isAny_two [40] [91] x] at this
  exact this.mono fun e w' ⟨he, hw⟩ => ⟨he, hw ▸ h.alloc _⟩
theorem is_mark {w W : World} {bx : Nat} {x : Tok} {v : Value} {ps : List Part} (h : At w W bx x v ps) (mk : ByteArray) (S : Nat) (hS : W.heap.size = S) :
    Calls Tryd.prog 26 #[.slice (some ⟨S, 0, none⟩) 1 1, .pointer (some ⟨bx, 0, none⟩)] (W.alloc (.cells #[.string mk] 9)) fun e w' => e = .returned (.bool (isM mk.data.toList x)) ∧ At w w' bx x v ps := by
  subst hS
  have := is_any bx W.heap.size 1 [mk] x 42 (0, 0) _ (by simp) (at_old (o := .cells #[.string mk] 9) h.box) (at_new W _)
  rw [show isAny [mk] x = isM mk.data.toList x from isAny_one mk.data.toList x] at this
  exact this.mono fun e w' ⟨he, hw⟩ => ⟨he, hw ▸ h.alloc _⟩
theorem PartsAt.form {W : World} {B : Nat} {v : Value} {x : Part} {t : List Part} (h : PartsAt W B v (x :: t)) : ∃ g cap, v = .slice (some ⟨g, 0, none⟩) (t.length + 1) cap := by
  obtain ⟨g, sp', c', hv, h1, _, _⟩ := own_at h.row
  exact ⟨g, c', by rw [hv, h1 (by simp)]; rfl⟩
set_option maxRecDepth 100000 in
set_option maxHeartbeats 4000000 in
theorem cut_any (v : Value) (L : List Tok) (mk : ByteArray) (w : World) (h : TokR w v L) (hl : L.length ≤ 100000) : Calls Tryd.prog 15 #[v, .string mk] w fun e w' =>
    ∃ v' ps, e = .returned v' ∧ (ps.map (·.1)).reverse = cutL mk.data.toList L ∧ PartsAt w' w.heap.size v' ps ∧ Below w.heap.size w w' := by
  obtain ⟨b, o, sp, c, rfl, hsp, hc⟩ := h
  obtain ⟨n, hn⟩ : ∃ n, L.length = n := ⟨_, rfl⟩
  rw [hn] at hl hsp ⊢
  have HN := Lib.hid hn
  have HC := Lib.hid hc
  clear hn hc
  by_cases h0 : n = 0
  · subst h0
    have hL0 : L = [] := List.eq_nil_of_length_eq_zero HN.out
    subst hL0
    clear HC HN
    go_enter Tryd.func15, Tryd.ntmps15
    go_wp2
    go_ret
    exact ⟨_, [], rfl, rfl, PartsAt.nil _ _, Below.refl _ _⟩
  · obtain rfl := hsp (by omega)
    have hcut : cutL mk.data.toList L = cutG mk.data.toList 0 L := by
      unfold cutL
      rw [if_neg (fun e => h0 (by rw [← HN.out, e]; rfl))]
    have HCT := Lib.hid hcut
    clear hcut
    have hp1 := PartsAt.one w (Nat.le_refl _)
    have hBa := (Below.refl w.heap.size w).alloc (Nat.le_refl _) (.cells #[.slice none 0 0] 23)
    go_enter Tryd.func15, Tryd.ntmps15
    go_wp2
    go_loopw [5, 6, 17] (fun pv dv i wr => ∃ (k d : Nat) (p : List Tok) (vb : Value) (t : List Part), k ≤ n ∧ i = .int .i64 k ∧ dv = .int .i64 d ∧ d ≤ k ∧ t.length ≤ k ∧ p.length ≤ k ∧ PartsAt wr w.heap.size pv ((p, vb) :: t) ∧ Below w.heap.size w wr ∧
      Hid (cutG mk.data.toList 0 L = (t.map (·.1)).reverse ++ glue p (cutG mk.data.toList d (L.drop k)))) (fun _ _ i _ => n - (intOf i).toNat)
    case atStart => exact ⟨0, 0, [], .slice none 0 0, [], by omega, rfl, rfl, by omega, by simp, by simp, hp1, hBa, Lib.hid (cut_start _ _)⟩
    case round =>
      obtain ⟨k, d, p, vb, t, hk, rfl, rfl, hdk, htk, hpk, hP, hB, HQ⟩ := hrel
      have hbase := hB.size
      obtain ⟨g, cap, rfl⟩ := hP.form
      obtain ⟨sb, capb, hvb⟩ := own_slice (hP.toks _ (List.mem_cons_self ..))
      simp only at hvb
      subst hvb
      by_cases hlt : k < n
      · obtain ⟨x, hx⟩ : ∃ x, L[k]? = some x := ⟨_, List.getElem?_eq_getElem (by rw [HN.out]; exact hlt)⟩
        obtain ⟨x1, x2, x3⟩ := HC.out k x hx
        replace x1 := keep_below hB _ _ x1
        replace x2 := keep_below hB _ _ x2
        replace x3 := keep_below hB _ _ x3
        have hdrop : L.drop k = x :: L.drop (k + 1) := by
          rw [List.drop_eq_getElem_cons (by rw [HN.out]; exact hlt)]
          congr 1
          rw [List.getElem?_eq_getElem (by rw [HN.out]; exact hlt)] at hx
          exact Option.some.inj hx
        have HD := Lib.hid hdrop
        clear hdrop hx
        have hA0 := At.first (x := x) hP hB
        have hcl := is_close hA0 (wr.heap.size + 1) (by simp)
        have hlp : t.length < 1000000 := by omega
        have hpp : p.length < 1000000 := by omega
        have hfar : ∀ q, (Value.slice sb p.length capb).ownBlock = some q → q < wr.heap.size := fun q hq => ((hP.toks _ (List.mem_cons_self ..)).lt q hq).2
        have z0 : (0 : Int) ≤ (t.length : Int) := by omega
        have z1 : (t.length : Int) < (t.length : Int) + 1 := by omega
        have z2 : IntKind.i64.wrap (t.length : Int) = t.length := by rw [IntKind.wrap_i64]; omega
        have z3 : IntKind.i64.wrap ((t.length : Int) + 1) = (t.length : Int) + 1 := by rw [IntKind.wrap_i64]; omega
        cases hcx : closes x
        · obtain ⟨e, hde⟩ : ∃ e, d = e := ⟨_, rfl⟩
          have he : dAt d x = e := by unfold dAt; rw [hcx, if_neg (by simp), hde]
          have hEN : e ≤ k := by omega
          have HDE := Lib.hid hde
          have hdint : (d : Int) = (e : Int) := by rw [hde]
          rw [hdint]
          clear hde hdint
          by_cases he0 : e = 0
          · subst he0
            cases hmk : isM mk.data.toList x
            · have hno : ¬ (isM mk.data.toList x = true ∧ dAt d x = 0) := fun h => by rw [hmk] at h; cases h.1
              go_wp2_with (first | (go_at_call 26; (with_reducible refine hcl.mono ?_); rintro e' w' ⟨rfl, hA1⟩; have him := is_mark hA1 mk w'.heap.size rfl) | (go_at_call 26; (with_reducible refine him.mono ?_); rintro e' w' ⟨rfl, hA1⟩))
              obtain ⟨l1, l2⟩ := hA1.parts.last
              obtain ⟨⟨k0, k1, k2⟩, _⟩ := three hA1.box
              have hPd : PartsAt w'.drew w.heap.size (.slice (some ⟨g, 0, none⟩) (t.length + 1) cap) ((p, .slice sb p.length capb) :: t) := ⟨hA1.parts.row, hA1.parts.toks, hA1.parts.apart⟩
              have hsz := hA1.below.size; have hgl := (hA1.parts.row.lt g rfl).2; have hbl := lt_of_block hA1.box
              go_region_law
                ((refine step_append_part (k := w'.heap.size) (c := 1) (y := x) (t' := 42) (fr := (0, 0)) (by rfl) (.tmp 47) (.tmp 49) (by rfl) w.heap.size (.slice sb p.length capb) p.length p (by rfl) (own_below (hPd.toks _ (List.mem_cons_self ..)) ((Below.refl _ _).alloc (Nat.le_refl _) _)) (by omega) _ _ _ (by rfl) (at_new w'.drew _) (by rfl) (by simp; omega) (w'.heap.size + 1) (by simp) ?_; intro gg cap2 w1 hown1 hgrow hat hlt1; obtain ⟨s2, s3⟩ := hA1.stays hgrow))
              all_goals
                have hA2 := hA1.longer hfar hown1 hgrow hat
                generalize w1.setCell _ _ = w4 at hA2 ⊢
                clear s2 s3 hown1 hgrow hat hlt1 l1 l2 k0 k1 k2 hPd
                have hio := is_open hA2 w4.heap.size rfl
                cases hop : opens x
                · go_wp2_with (go_at_call 26; (with_reducible refine hio.mono ?_); rintro e' w5 ⟨rfl, hA5⟩)
                  refine ⟨⟨k + 1, 0, p ++ [x], _, t, by omega, by go_num, by go_num, by omega, by omega, by simp; omega, hA5.parts, hA5.below, Lib.hid ?_⟩, by simp [intOf]; omega⟩
                  rw [HQ.out, HD.out, cut_more _ d x _ _ _ hno, show dOn d x = 0 by unfold dOn; rw [hop, if_neg (by simp), he]]
                · go_wp2_with (go_at_call 26; (with_reducible refine hio.mono ?_); rintro e' w5 ⟨rfl, hA5⟩)
                  refine ⟨⟨k + 1, 1, p ++ [x], _, t, by omega, by go_num, by go_num, by omega, by omega, by simp; omega, hA5.parts, hA5.below, Lib.hid ?_⟩, by simp [intOf]; omega⟩
                  rw [HQ.out, HD.out, cut_more _ d x _ _ _ hno, show dOn d x = 1 by unfold dOn; rw [hop, if_pos rfl, he]]
            · have hyes : isM mk.data.toList x = true ∧ dAt d x = 0 := ⟨hmk, he⟩
              cases hop : opens x
              · go_wp2_with (first
                  | (go_at_call 26; (with_reducible refine hcl.mono ?_); rintro e' w' ⟨rfl, hA1⟩; have him := is_mark hA1 mk w'.heap.size rfl)
                  | (go_at_call 26; (with_reducible refine him.mono ?_); rintro e' w' ⟨rfl, hA1⟩)
                  | (at_builtin; refine wpList_append_nilpart (k := w'.heap.size) (c := 1) (t' := 23) (fr := (0, 0)) rfl (.tmp 39) (.tmp 40) rfl w.heap.size (.slice (some ⟨g, 0, none⟩) (t.length + 1) cap) ((p, .slice sb p.length capb) :: t) rfl (hA1.alloc _).parts (by simp; omega) rfl (at_new w' _) (by have := hA1.below.size; simp; omega) ?_; intro v4 w4 hP4 hg4; have hA4 := (hA1.alloc _).marked hP4 hg4; have hio := is_open hA4 w4.heap.size rfl)
                  | (go_at_call 26; (with_reducible refine hio.mono ?_); rintro e' w5 ⟨rfl, hA5⟩))
                refine ⟨⟨k + 1, 0, [], .slice none 0 0, ((p, .slice sb p.length capb) :: t), by omega, by go_num, by go_num, by omega, by simp; omega, by simp, hA5.parts, hA5.below, Lib.hid ?_⟩, by simp [intOf]; omega⟩
                rw [HQ.out, HD.out, cut_mark _ d x _ _ _ hyes, show dOn d x = 0 by unfold dOn; rw [hop, if_neg (by simp), he]]
                rfl
              · go_wp2_with (first
                  | (go_at_call 26; (with_reducible refine hcl.mono ?_); rintro e' w' ⟨rfl, hA1⟩; have him := is_mark hA1 mk w'.heap.size rfl)
                  | (go_at_call 26; (with_reducible refine him.mono ?_); rintro e' w' ⟨rfl, hA1⟩)
                  | (at_builtin; refine wpList_append_nilpart (k := w'.heap.size) (c := 1) (t' := 23) (fr := (0, 0)) rfl (.tmp 39) (.tmp 40) rfl w.heap.size (.slice (some ⟨g, 0, none⟩) (t.length + 1) cap) ((p, .slice sb p.length capb) :: t) rfl (hA1.alloc _).parts (by simp; omega) rfl (at_new w' _) (by have := hA1.below.size; simp; omega) ?_; intro v4 w4 hP4 hg4; have hA4 := (hA1.alloc _).marked hP4 hg4; have hio := is_open hA4 w4.heap.size rfl)
                  | (go_at_call 26; (with_reducible refine hio.mono ?_); rintro e' w5 ⟨rfl, hA5⟩))
                refine ⟨⟨k + 1, 1, [], .slice none 0 0, ((p, .slice sb p.length capb) :: t), by omega, by go_num, by go_num, by omega, by simp; omega, by simp, hA5.parts, hA5.below, Lib.hid ?_⟩, by simp [intOf]; omega⟩
                rw [HQ.out, HD.out, cut_mark _ d x _ _ _ hyes, show dOn d x = 1 by unfold dOn; rw [hop, if_pos rfl, he]]
                rfl
          · have hno : ¬ (isM mk.data.toList x = true ∧ dAt d x = 0) := fun h => he0 (he ▸ h.2)
            have hen : ((e : Int) == 0) = false := by rw [beq_eq_false_iff_ne]; omega
            go_wp2_with (go_at_call 26; (with_reducible refine hcl.mono ?_); rintro e' w' ⟨rfl, hA1⟩; have him := is_mark hA1 mk w'.heap.size rfl)
            obtain ⟨l1, l2⟩ := hA1.parts.last
            obtain ⟨⟨k0, k1, k2⟩, _⟩ := three hA1.box
            have hPd : PartsAt w'.drew w.heap.size (.slice (some ⟨g, 0, none⟩) (t.length + 1) cap) ((p, .slice sb p.length capb) :: t) := ⟨hA1.parts.row, hA1.parts.toks, hA1.parts.apart⟩
            have hsz := hA1.below.size; have hgl := (hA1.parts.row.lt g rfl).2; have hbl := lt_of_block hA1.box
            go_region_law
              ((refine step_append_part (k := w'.heap.size) (c := 1) (y := x) (t' := 42) (fr := (0, 0)) (by rfl) (.tmp 47) (.tmp 49) (by rfl) w.heap.size (.slice sb p.length capb) p.length p (by rfl) (own_below (hPd.toks _ (List.mem_cons_self ..)) ((Below.refl _ _).alloc (Nat.le_refl _) _)) (by omega) _ _ _ (by rfl) (at_new w'.drew _) (by rfl) (by simp; omega) (w'.heap.size + 1) (by simp) ?_; intro gg cap2 w1 hown1 hgrow hat hlt1; obtain ⟨s2, s3⟩ := hA1.stays hgrow))
            all_goals
              have hA2 := hA1.longer hfar hown1 hgrow hat
              generalize w1.setCell _ _ = w4 at hA2 ⊢
              clear s2 s3 hown1 hgrow hat hlt1 l1 l2 k0 k1 k2 hPd
              have hio := is_open hA2 w4.heap.size rfl
              cases hop : opens x
              · go_wp2_with (go_at_call 26; (with_reducible refine hio.mono ?_); rintro e' w5 ⟨rfl, hA5⟩)
                refine ⟨⟨k + 1, e, p ++ [x], _, t, by omega, by go_num, by go_num, by omega, by omega, by simp; omega, hA5.parts, hA5.below, Lib.hid ?_⟩, by simp [intOf]; omega⟩
                rw [HQ.out, HD.out, cut_more _ d x _ _ _ hno, show dOn d x = e by unfold dOn; rw [hop, if_neg (by simp), he]]
              · go_wp2_with (go_at_call 26; (with_reducible refine hio.mono ?_); rintro e' w5 ⟨rfl, hA5⟩)
                refine ⟨⟨k + 1, e + 1, p ++ [x], _, t, by omega, by go_num, by go_num, by omega, by omega, by simp; omega, hA5.parts, hA5.below, Lib.hid ?_⟩, by simp [intOf]; omega⟩
                rw [HQ.out, HD.out, cut_more _ d x _ _ _ hno, show dOn d x = e + 1 by unfold dOn; rw [hop, if_pos rfl, he]]
        · obtain ⟨e, hde⟩ : ∃ e, d - 1 = e := ⟨_, rfl⟩
          have he : dAt d x = e := by unfold dAt; rw [hcx, if_pos rfl, hde]
          have hEN : e ≤ k := by omega
          have hmx : max ((d : Int) - 1) 0 = (e : Int) := by omega
          clear hde
          by_cases he0 : e = 0
          · subst he0
            cases hmk : isM mk.data.toList x
            · have hno : ¬ (isM mk.data.toList x = true ∧ dAt d x = 0) := fun h => by rw [hmk] at h; cases h.1
              go_wp2_with (first | (go_at_call 26; (with_reducible refine hcl.mono ?_); rintro e' w' ⟨rfl, hA1⟩; have him := is_mark hA1 mk w'.heap.size rfl) | (go_at_call 26; (with_reducible refine him.mono ?_); rintro e' w' ⟨rfl, hA1⟩))
              obtain ⟨l1, l2⟩ := hA1.parts.last
              obtain ⟨⟨k0, k1, k2⟩, _⟩ := three hA1.box
              have hPd : PartsAt w'.drew w.heap.size (.slice (some ⟨g, 0, none⟩) (t.length + 1) cap) ((p, .slice sb p.length capb) :: t) := ⟨hA1.parts.row, hA1.parts.toks, hA1.parts.apart⟩
              have hsz := hA1.below.size; have hgl := (hA1.parts.row.lt g rfl).2; have hbl := lt_of_block hA1.box
              go_region_law
                ((refine step_append_part (k := w'.heap.size) (c := 1) (y := x) (t' := 42) (fr := (0, 0)) (by rfl) (.tmp 47) (.tmp 49) (by rfl) w.heap.size (.slice sb p.length capb) p.length p (by rfl) (own_below (hPd.toks _ (List.mem_cons_self ..)) ((Below.refl _ _).alloc (Nat.le_refl _) _)) (by omega) _ _ _ (by rfl) (at_new w'.drew _) (by rfl) (by simp; omega) (w'.heap.size + 1) (by simp) ?_; intro gg cap2 w1 hown1 hgrow hat hlt1; obtain ⟨s2, s3⟩ := hA1.stays hgrow))
              all_goals
                have hA2 := hA1.longer hfar hown1 hgrow hat
                generalize w1.setCell _ _ = w4 at hA2 ⊢
                clear s2 s3 hown1 hgrow hat hlt1 l1 l2 k0 k1 k2 hPd
                have hio := is_open hA2 w4.heap.size rfl
                cases hop : opens x
                · go_wp2_with (go_at_call 26; (with_reducible refine hio.mono ?_); rintro e' w5 ⟨rfl, hA5⟩)
                  refine ⟨⟨k + 1, 0, p ++ [x], _, t, by omega, by go_num, by go_num, by omega, by omega, by simp; omega, hA5.parts, hA5.below, Lib.hid ?_⟩, by simp [intOf]; omega⟩
                  rw [HQ.out, HD.out, cut_more _ d x _ _ _ hno, show dOn d x = 0 by unfold dOn; rw [hop, if_neg (by simp), he]]
                · go_wp2_with (go_at_call 26; (with_reducible refine hio.mono ?_); rintro e' w5 ⟨rfl, hA5⟩)
                  refine ⟨⟨k + 1, 1, p ++ [x], _, t, by omega, by go_num, by go_num, by omega, by omega, by simp; omega, hA5.parts, hA5.below, Lib.hid ?_⟩, by simp [intOf]; omega⟩
                  rw [HQ.out, HD.out, cut_more _ d x _ _ _ hno, show dOn d x = 1 by unfold dOn; rw [hop, if_pos rfl, he]]
            · have hyes : isM mk.data.toList x = true ∧ dAt d x = 0 := ⟨hmk, he⟩
              cases hop : opens x
              · go_wp2_with (first
                  | (go_at_call 26; (with_reducible refine hcl.mono ?_); rintro e' w' ⟨rfl, hA1⟩; have him := is_mark hA1 mk w'.heap.size rfl)
                  | (go_at_call 26; (with_reducible refine him.mono ?_); rintro e' w' ⟨rfl, hA1⟩)
                  | (at_builtin; refine wpList_append_nilpart (k := w'.heap.size) (c := 1) (t' := 23) (fr := (0, 0)) rfl (.tmp 39) (.tmp 40) rfl w.heap.size (.slice (some ⟨g, 0, none⟩) (t.length + 1) cap) ((p, .slice sb p.length capb) :: t) rfl (hA1.alloc _).parts (by simp; omega) rfl (at_new w' _) (by have := hA1.below.size; simp; omega) ?_; intro v4 w4 hP4 hg4; have hA4 := (hA1.alloc _).marked hP4 hg4; have hio := is_open hA4 w4.heap.size rfl)
                  | (go_at_call 26; (with_reducible refine hio.mono ?_); rintro e' w5 ⟨rfl, hA5⟩))
                refine ⟨⟨k + 1, 0, [], .slice none 0 0, ((p, .slice sb p.length capb) :: t), by omega, by go_num, by go_num, by omega, by simp; omega, by simp, hA5.parts, hA5.below, Lib.hid ?_⟩, by simp [intOf]; omega⟩
                rw [HQ.out, HD.out, cut_mark _ d x _ _ _ hyes, show dOn d x = 0 by unfold dOn; rw [hop, if_neg (by simp), he]]
                rfl
              · go_wp2_with (first
                  | (go_at_call 26; (with_reducible refine hcl.mono ?_); rintro e' w' ⟨rfl, hA1⟩; have him := is_mark hA1 mk w'.heap.size rfl)
                  | (go_at_call 26; (with_reducible refine him.mono ?_); rintro e' w' ⟨rfl, hA1⟩)
                  | (at_builtin; refine wpList_append_nilpart (k := w'.heap.size) (c := 1) (t' := 23) (fr := (0, 0)) rfl (.tmp 39) (.tmp 40) rfl w.heap.size (.slice (some ⟨g, 0, none⟩) (t.length + 1) cap) ((p, .slice sb p.length capb) :: t) rfl (hA1.alloc _).parts (by simp; omega) rfl (at_new w' _) (by have := hA1.below.size; simp; omega) ?_; intro v4 w4 hP4 hg4; have hA4 := (hA1.alloc _).marked hP4 hg4; have hio := is_open hA4 w4.heap.size rfl)
                  | (go_at_call 26; (with_reducible refine hio.mono ?_); rintro e' w5 ⟨rfl, hA5⟩))
                refine ⟨⟨k + 1, 1, [], .slice none 0 0, ((p, .slice sb p.length capb) :: t), by omega, by go_num, by go_num, by omega, by simp; omega, by simp, hA5.parts, hA5.below, Lib.hid ?_⟩, by simp [intOf]; omega⟩
                rw [HQ.out, HD.out, cut_mark _ d x _ _ _ hyes, show dOn d x = 1 by unfold dOn; rw [hop, if_pos rfl, he]]
                rfl
          · have hno : ¬ (isM mk.data.toList x = true ∧ dAt d x = 0) := fun h => he0 (he ▸ h.2)
            have hen : ((e : Int) == 0) = false := by rw [beq_eq_false_iff_ne]; omega
            go_wp2_with (go_at_call 26; (with_reducible refine hcl.mono ?_); rintro e' w' ⟨rfl, hA1⟩; have him := is_mark hA1 mk w'.heap.size rfl)
            obtain ⟨l1, l2⟩ := hA1.parts.last
            obtain ⟨⟨k0, k1, k2⟩, _⟩ := three hA1.box
            have hPd : PartsAt w'.drew w.heap.size (.slice (some ⟨g, 0, none⟩) (t.length + 1) cap) ((p, .slice sb p.length capb) :: t) := ⟨hA1.parts.row, hA1.parts.toks, hA1.parts.apart⟩
            have hsz := hA1.below.size; have hgl := (hA1.parts.row.lt g rfl).2; have hbl := lt_of_block hA1.box
            go_region_law
              ((refine step_append_part (k := w'.heap.size) (c := 1) (y := x) (t' := 42) (fr := (0, 0)) (by rfl) (.tmp 47) (.tmp 49) (by rfl) w.heap.size (.slice sb p.length capb) p.length p (by rfl) (own_below (hPd.toks _ (List.mem_cons_self ..)) ((Below.refl _ _).alloc (Nat.le_refl _) _)) (by omega) _ _ _ (by rfl) (at_new w'.drew _) (by rfl) (by simp; omega) (w'.heap.size + 1) (by simp) ?_; intro gg cap2 w1 hown1 hgrow hat hlt1; obtain ⟨s2, s3⟩ := hA1.stays hgrow))
            all_goals
              have hA2 := hA1.longer hfar hown1 hgrow hat
              generalize w1.setCell _ _ = w4 at hA2 ⊢
              clear s2 s3 hown1 hgrow hat hlt1 l1 l2 k0 k1 k2 hPd
              have hio := is_open hA2 w4.heap.size rfl
              cases hop : opens x
              · go_wp2_with (go_at_call 26; (with_reducible refine hio.mono ?_); rintro e' w5 ⟨rfl, hA5⟩)
                refine ⟨⟨k + 1, e, p ++ [x], _, t, by omega, by go_num, by go_num, by omega, by omega, by simp; omega, hA5.parts, hA5.below, Lib.hid ?_⟩, by simp [intOf]; omega⟩
                rw [HQ.out, HD.out, cut_more _ d x _ _ _ hno, show dOn d x = e by unfold dOn; rw [hop, if_neg (by simp), he]]
              · go_wp2_with (go_at_call 26; (with_reducible refine hio.mono ?_); rintro e' w5 ⟨rfl, hA5⟩)
                refine ⟨⟨k + 1, e + 1, p ++ [x], _, t, by omega, by go_num, by go_num, by omega, by omega, by simp; omega, hA5.parts, hA5.below, Lib.hid ?_⟩, by simp [intOf]; omega⟩
                rw [HQ.out, HD.out, cut_more _ d x _ _ _ hno, show dOn d x = e + 1 by unfold dOn; rw [hop, if_pos rfl, he]]
      · obtain rfl : k = n := by omega
        rw [List.drop_eq_nil_of_le (by rw [HN.out]; exact Nat.le_refl _), cut_end] at HQ
        go_wp2
        go_ret
        exact ⟨_, _, rfl, by rw [HCT.out, HQ.out]; rfl, hP, hB⟩
end Go.Proofs.YtblbcdofiheikaaDoor
