/- What the program's isRight of expressions does when it is called; the texts in a tree are shorter than 140737488355328 bytes. -/
import Derived.Test.YtaoeipbofhkkcaaGreatDoorPrNam
import Derived.Test.YtaoeipbofhkkcaaGreatDoorExRgtb
namespace Go.Proofs.YtaoeipbofhkkcaaGreatDoor
open Go.RowKit Go.Proofs.NumMath

/-- the tests ahead of the parts, as they are met -/
theorem head_eq (d : Nat) (op : List UInt8) (n : Nat) (name : List UInt8) (m : Nat) (hn : n ≤ 65535) : headX d op n name m =
    (decide (d ≤ 24) && decide ((rankL op).1 ≠ 0) && decide (m = (rankL op).2) && (decide (op = [35]) || decide (n = 0)) && (if op = [110] then pnameL name else decide (name = []))) := by
  unfold headX pnameL
  by_cases h : op = [35] <;> simp [h, hn]
set_option maxHeartbeats 4000000 in
theorem pright_bad (op : List UInt8) (n : Nat) (name : List UInt8) (m d : Nat) (sp : Option Addr) (c : Nat) (w : World) (hn : n ≤ 65535) (_hm : m < 140737488355328) (hname : name.length < 140737488355328)
    (hh : headX d op n name m = false) :
    Calls Tryz.prog 36 #[.agg #[.string ⟨op.toArray⟩, .int .u16 (n : Nat), .string ⟨name.toArray⟩, .slice sp m c], .int .i64 d] w fun r w' => r = .returned (.bool false) ∧ Below w.heap.size w w' := by
  have hr := level_any op
  have hp := parts_any op
  have hi := isname_any name hname
  rw [head_eq d op n name m hn] at hh
  by_cases hd24 : d ≤ 24
  case neg =>
    clear hh
    go_enter Tryz.func36, Tryz.ntmps36
    go_wp2
    go_ret
    exact ⟨rfl, box_below _ _⟩
  by_cases h1 : (rankL op).1 = 0
  · have hz : (((rankL op).1 : Nat) : Int) = 0 := by rw [h1]; rfl
    clear hh
    go_enter Tryz.func36, Tryz.ntmps36
    go_wp2_with (first
        | (go_at_call 40; refine (hr _).mono ?_; rintro e w' ⟨rfl, rfl⟩))
    go_ret
    exact ⟨rfl, box_below _ _⟩
  rw [parts_rank op h1] at hp
  have hz : ((((rankL op).1 : Nat) : Int) == 0) = false := by rw [beq_eq_false_iff_ne]; omega
  obtain ⟨q, hq⟩ : ∃ q, (rankL op).2 = q := ⟨_, rfl⟩
  rw [hq] at hp hh
  by_cases h2 : m = q
  case neg =>
    have hz2 : ((m : Int) == (q : Int)) = false := by rw [beq_eq_false_iff_ne]; omega
    have hz3 : ((m : Int) != (q : Int)) = true := by rw [bne_iff_ne]; omega
    clear hq hh
    go_enter Tryz.func36, Tryz.ntmps36
    go_wp2_with (first
        | (go_at_call 40; refine (hr _).mono ?_; rintro e w' ⟨rfl, rfl⟩))
    have hB := box_below w (Obj.cells #[Value.string ⟨op.toArray⟩, Value.int .u16 n, Value.string ⟨name.toArray⟩, Value.slice sp m c] 25)
    obtain ⟨c0, c1, c2, c3⟩ := cells_box (heap_alloc_new w (Obj.cells #[Value.string ⟨op.toArray⟩, Value.int .u16 n, Value.string ⟨name.toArray⟩, Value.slice sp m c] 25))
    generalize w.alloc (Obj.cells #[Value.string ⟨op.toArray⟩, Value.int .u16 n, Value.string ⟨name.toArray⟩, Value.slice sp m c] 25) = wr at hB c0 c1 c2 c3 ⊢
    go_quiet ((go_at_call 52; exact Calls.quiet_of_same (hp _)))
    go_wp2
    go_ret
    exact ⟨rfl, below_drewN hB _⟩
  subst h2
  simp only [hd24, h1, decide_true, ne_eq, not_false_eq_true, Bool.true_and, Bool.and_eq_false_iff, Bool.or_eq_false_iff, decide_eq_false_iff_not] at hh
  have hz3 : ((m : Int) != (m : Int)) = false := by simp
  clear hq
  go_enter Tryz.func36, Tryz.ntmps36
  go_wp2_with (first
      | (go_at_call 40; refine (hr _).mono ?_; rintro e w' ⟨rfl, rfl⟩))
  have hB := box_below w (Obj.cells #[Value.string ⟨op.toArray⟩, Value.int .u16 n, Value.string ⟨name.toArray⟩, Value.slice sp m c] 25)
  obtain ⟨c0, c1, c2, c3⟩ := cells_box (heap_alloc_new w (Obj.cells #[Value.string ⟨op.toArray⟩, Value.int .u16 n, Value.string ⟨name.toArray⟩, Value.slice sp m c] 25))
  generalize w.alloc (Obj.cells #[Value.string ⟨op.toArray⟩, Value.int .u16 n, Value.string ⟨name.toArray⟩, Value.slice sp m c] 25) = wr at hB c0 c1 c2 c3 ⊢
  go_quiet ((go_at_call 52; exact Calls.quiet_of_same (hp _)))
  have HB := Lib.hid hB
  clear hr hp hB
  by_cases hD : op ≠ [35] ∧ n ≠ 0
  · have b35 : (op == [35]) = false := by rw [beq_eq_false_iff_ne]; exact hD.1
    have b35n : (op != [35]) = true := by rw [bne_iff_ne]; exact hD.1
    have hnz : ((n : Int) != 0) = true := by rw [bne_iff_ne]; omega
    go_wp2
    go_ret
    exact ⟨rfl, below_drewN HB.out _⟩
  replace hh : (if op = [110] then pnameL name else decide (name = [])) = false := by
    rcases hh with ⟨ha, hb⟩ | hb
    · exact absurd ⟨ha, hb⟩ hD
    · exact hb
  by_cases h110 : op = [110]
  · rw [if_pos h110] at hh
    have hn0 : n = 0 := Decidable.by_contra fun h => hD ⟨by rw [h110]; decide, h⟩
    subst hn0
    have b35 : (op == [35]) = false := by rw [beq_eq_false_iff_ne, h110]; decide
    have b110 : (op == [110]) = true := by rw [beq_iff_eq]; exact h110
    rw [hh] at hi
    clear hD h110 hh
    go_wp2_with (go_at_call 53; refine (hi _).mono ?_; rintro e w' ⟨rfl, hB3⟩)
    go_ret
    exact ⟨rfl, (below_drewN HB.out nq).trans (hB3.mono (below_drewN HB.out nq).size)⟩
  · rw [if_neg h110, decide_eq_false_iff_not] at hh
    have b110 : (op == [110]) = false := by rw [beq_eq_false_iff_ne]; exact h110
    have b110n : (op != [110]) = true := by rw [bne_iff_ne]; exact h110
    have hem := isEmpty_mk hh
    have hk : ((op == [35]) = true ∧ (op != [35]) = false) ∨ n = 0 := by
      by_cases h : op = [35]
      · exact .inl ⟨by rw [beq_iff_eq]; exact h, by rw [bne_eq_false_iff_eq]; exact h⟩
      · exact .inr (Decidable.by_contra fun h' => hD ⟨h, h'⟩)
    clear hh h110 hD hi
    rcases hk with ⟨b35, b35n⟩ | rfl
    · by_cases hn0 : n = 0
      · subst hn0
        go_wp2
        go_ret
        exact ⟨rfl, below_drewN HB.out _⟩
      · have hnz : ((n : Int) != 0) = true := by rw [bne_iff_ne]; omega
        go_wp2
        go_ret
        exact ⟨rfl, below_drewN HB.out _⟩
    · go_wp2
      go_ret
      exact ⟨rfl, below_drewN HB.out _⟩
set_option maxHeartbeats 4000000 in
theorem pright_step (op : List UInt8) (n : Nat) (name : List UInt8) (sub : List Ex) (d : Nat) (v : Value) (w : World) (hs : shortX (.mk op n name sub) = true) (hd : d ≤ 25) (hv : ExV w v (.mk op n name sub))
    (ih : ∀ (e : Ex) (v : Value) (w : World), e ∈ sub → ExV w v e → d + 1 ≤ 25 → Calls Tryz.prog 36 #[v, .int .i64 ((d : Int) + 1)] w fun r w' => r = .returned (.bool (rightX (d + 1) e)) ∧ Below w.heap.size w w') :
    Calls Tryz.prog 36 #[v, .int .i64 d] w fun r w' => r = .returned (.bool (rightX d (.mk op n name sub))) ∧ Below w.heap.size w w' := by
  obtain ⟨hn, b, o, sp, c, rfl, hsp, hl⟩ := hv
  rw [right_head]
  have hsub : sub.length < 140737488355328 := by
    simp only [shortX, Bool.and_eq_true, decide_eq_true_eq] at hs; exact hs.1.2
  have hname : name.length < 140737488355328 := by
    simp only [shortX, Bool.and_eq_true, decide_eq_true_eq] at hs; exact hs.1.1.2
  clear hs
  obtain ⟨H, hH⟩ : ∃ H, headX d op n name sub.length = H := ⟨_, rfl⟩
  cases H
  · rw [hH, Bool.false_and]
    exact pright_bad op n name sub.length d sp c w hn hsub hname hH
  rw [hH, Bool.true_and]
  have hr := level_any op
  have hp := parts_any op
  have hi := isname_any name hname
  rw [head_eq d op n name sub.length hn] at hH
  simp only [Bool.and_eq_true, Bool.or_eq_true, decide_eq_true_eq] at hH
  obtain ⟨⟨⟨⟨hd24, h1⟩, h2⟩, h35⟩, h110⟩ := hH
  rw [parts_rank op h1, ← h2] at hp
  obtain ⟨m, hm⟩ : ∃ m, sub.length = m := ⟨_, rfl⟩
  have hz : ((((rankL op).1 : Nat) : Int) == 0) = false := by rw [beq_eq_false_iff_ne]; omega
  have hz3 : ((m : Int) != (m : Int)) = false := by simp
  have hcs : ((op == [35]) = true ∧ (op != [35]) = false ∧ (op == [110]) = false ∧ (op != [110]) = true ∧ ((n : Int) != 0) = false ∧ name = []) ∨
      ((op == [35]) = true ∧ (op != [35]) = false ∧ (op == [110]) = false ∧ (op != [110]) = true ∧ ((n : Int) != 0) = true ∧ name = []) ∨
      ((op == [35]) = false ∧ (op != [35]) = true ∧ (op == [110]) = false ∧ (op != [110]) = true ∧ ((n : Int) != 0) = false ∧ name = []) ∨
      ((op == [35]) = false ∧ (op != [35]) = true ∧ (op == [110]) = true ∧ (op != [110]) = false ∧ ((n : Int) != 0) = false ∧ pnameL name = true) := by
    simp only [beq_iff_eq, bne_iff_ne, beq_eq_false_iff_ne, bne_eq_false_iff_eq]
    by_cases a : op = [35]
    · have b : op ≠ [110] := by rw [a]; decide
      rw [if_neg b, decide_eq_true_eq] at h110
      by_cases hn0 : n = 0
      · exact .inl ⟨a, a, b, b, by omega, h110⟩
      · exact .inr (.inl ⟨a, a, b, b, by omega, h110⟩)
    · have hn0 : n = 0 := by rcases h35 with h | h; exact absurd h a; exact h
      by_cases b : op = [110]
      · rw [if_pos b] at h110
        exact .inr (.inr (.inr ⟨a, a, b, b, by omega, h110⟩))
      · rw [if_neg b, decide_eq_true_eq] at h110
        exact .inr (.inr (.inl ⟨a, a, b, b, by omega, h110⟩))
  rw [hm] at h2 hsp hsub hp ⊢
  have HM := Lib.hid hm
  have HL := Lib.hid hl
  have HI := Lib.hid ih
  have HC := Lib.hid hcs
  clear h2 hm hl ih hcs h35 h110 h1
  go_enter Tryz.func36, Tryz.ntmps36
  go_wp2_with (first
      | (go_at_call 40; refine (hr _).mono ?_; rintro e w' ⟨rfl, rfl⟩))
  have hB := box_below w (Obj.cells #[Value.string ⟨op.toArray⟩, Value.int .u16 n, Value.string ⟨name.toArray⟩, Value.slice sp m c] 25)
  obtain ⟨c0, c1, c2, c3⟩ := cells_box (heap_alloc_new w (Obj.cells #[Value.string ⟨op.toArray⟩, Value.int .u16 n, Value.string ⟨name.toArray⟩, Value.slice sp m c] 25))
  generalize w.alloc (Obj.cells #[Value.string ⟨op.toArray⟩, Value.int .u16 n, Value.string ⟨name.toArray⟩, Value.slice sp m c] 25) = w0 at hB c0 c1 c2 c3 ⊢
  go_quiet ((go_at_call 52; exact Calls.quiet_of_same (hp _)))
  have HB := Lib.hid (below_drewN hB nq)
  clear hr hp hB
  rcases HC.out with ⟨b35, b35n, b110, b110n, hnz, rfl⟩ | ⟨b35, b35n, b110, b110n, hnz, rfl⟩ | ⟨b35, b35n, b110, b110n, hnz, rfl⟩ | ⟨b35, b35n, b110, b110n, hnz, hpn⟩
  · clear HC hi
    go_wp2
    go_loopw [51] (fun i w2 => ∃ k : Nat, k ≤ m ∧ i = .int .i64 k ∧ Hid (Below w.heap.size w w2) ∧ Hid (∀ x ∈ sub.take k, rightX (d + 1) x = true)) (fun i _ => m - (intOf i).toNat)
    case atStart => exact ⟨0, by omega, rfl, HB, Lib.hid (by simp)⟩
    case round =>
      obtain ⟨k, hk, rfl, hB, HQ⟩ := hrel
      by_cases hlt : k < m
      · obtain rfl := hsp (by omega)
        obtain ⟨e, he⟩ : ∃ e, sub[k]? = some e := ⟨_, List.getElem?_eq_getElem (by rw [HM.out]; exact hlt)⟩
        obtain ⟨eo, en, es, el⟩ := e
        obtain ⟨x0, x1, x2, x3, b', o', sp', c', x4, x5, x6⟩ := CellsAt.keep (keep_bel hB.out) _ _ _ (ListAt.at sub b o k _ HL.out he)
        have hi : ∀ W, Below wr.heap.size wr W → Calls Tryz.prog 36 #[.agg #[.string ⟨eo.toArray⟩, .int .u16 (en : Nat), .string ⟨es.toArray⟩, .slice sp' el.length c'], .int .i64 ((d : Int) + 1)] W fun r w' => r = .returned (.bool (rightX (d + 1) (.mk eo en es el))) ∧ Below W.heap.size W w' := fun W hW =>
          HI.out _ _ W (List.mem_of_getElem? he) (ExV.below hW ⟨x2, b', o', sp', c', rfl, x5, x6⟩) (by omega)
        obtain ⟨l', hl'⟩ : ∃ l', el.length = l' := ⟨_, rfl⟩
        rw [hl'] at x4 hi
        have HE := Lib.hid he
        obtain ⟨X, hX⟩ : ∃ X, rightX (d + 1) (.mk eo en es el) = X := ⟨_, rfl⟩
        rw [hX] at hi
        have HX := Lib.hid hX
        have HT := Lib.hid hi
        clear hX he x5 x6 hl' hi
        cases X
        · go_wp2_with (go_at_call 36; refine (HT.out _ (box_below _ _)).mono ?_; rintro r w3 ⟨rfl, hB3⟩)
          go_ret
          refine ⟨ret_bool ?_, hB.out.trans ((box_below wr _).trans (hB3.mono (box_below wr _).size) |>.mono hB.out.size)⟩
          symm
          rw [Bool.eq_false_iff]
          intro h
          rw [List.all_eq_true] at h
          have := h _ (List.mem_of_getElem? HE.out)
          rw [HX.out] at this
          cases this
        · go_wp2_with (go_at_call 36; refine (HT.out _ (box_below _ _)).mono ?_; rintro r w3 ⟨rfl, hB3⟩)
          refine ⟨⟨k + 1, by omega, by go_num, Lib.hid (hB.out.trans ((box_below wr _).trans (hB3.mono (box_below wr _).size) |>.mono hB.out.size)), Lib.hid ?_⟩, by simp [intOf]; omega⟩
          rw [List.take_add_one, HE.out]
          intro y hy
          rcases List.mem_append.1 hy with hy | hy
          · exact HQ.out y hy
          · obtain rfl := by simpa using hy
            exact HX.out
      · obtain rfl : k = m := by omega
        go_wp2
        go_ret
        refine ⟨ret_bool ?_, hB.out⟩
        symm
        have := HQ.out
        rw [List.take_of_length_le (by rw [HM.out]; exact Nat.le_refl _)] at this
        rw [List.all_eq_true]
        exact this
  · clear HC hi
    go_wp2
    go_loopw [51] (fun i w2 => ∃ k : Nat, k ≤ m ∧ i = .int .i64 k ∧ Hid (Below w.heap.size w w2) ∧ Hid (∀ x ∈ sub.take k, rightX (d + 1) x = true)) (fun i _ => m - (intOf i).toNat)
    case atStart => exact ⟨0, by omega, rfl, HB, Lib.hid (by simp)⟩
    case round =>
      obtain ⟨k, hk, rfl, hB, HQ⟩ := hrel
      by_cases hlt : k < m
      · obtain rfl := hsp (by omega)
        obtain ⟨e, he⟩ : ∃ e, sub[k]? = some e := ⟨_, List.getElem?_eq_getElem (by rw [HM.out]; exact hlt)⟩
        obtain ⟨eo, en, es, el⟩ := e
        obtain ⟨x0, x1, x2, x3, b', o', sp', c', x4, x5, x6⟩ := CellsAt.keep (keep_bel hB.out) _ _ _ (ListAt.at sub b o k _ HL.out he)
        have hi : ∀ W, Below wr.heap.size wr W → Calls Tryz.prog 36 #[.agg #[.string ⟨eo.toArray⟩, .int .u16 (en : Nat), .string ⟨es.toArray⟩, .slice sp' el.length c'], .int .i64 ((d : Int) + 1)] W fun r w' => r = .returned (.bool (rightX (d + 1) (.mk eo en es el))) ∧ Below W.heap.size W w' := fun W hW =>
          HI.out _ _ W (List.mem_of_getElem? he) (ExV.below hW ⟨x2, b', o', sp', c', rfl, x5, x6⟩) (by omega)
        obtain ⟨l', hl'⟩ : ∃ l', el.length = l' := ⟨_, rfl⟩
        rw [hl'] at x4 hi
        have HE := Lib.hid he
        obtain ⟨X, hX⟩ : ∃ X, rightX (d + 1) (.mk eo en es el) = X := ⟨_, rfl⟩
        rw [hX] at hi
        have HX := Lib.hid hX
        have HT := Lib.hid hi
        clear hX he x5 x6 hl' hi
        cases X
        · go_wp2_with (go_at_call 36; refine (HT.out _ (box_below _ _)).mono ?_; rintro r w3 ⟨rfl, hB3⟩)
          go_ret
          refine ⟨ret_bool ?_, hB.out.trans ((box_below wr _).trans (hB3.mono (box_below wr _).size) |>.mono hB.out.size)⟩
          symm
          rw [Bool.eq_false_iff]
          intro h
          rw [List.all_eq_true] at h
          have := h _ (List.mem_of_getElem? HE.out)
          rw [HX.out] at this
          cases this
        · go_wp2_with (go_at_call 36; refine (HT.out _ (box_below _ _)).mono ?_; rintro r w3 ⟨rfl, hB3⟩)
          refine ⟨⟨k + 1, by omega, by go_num, Lib.hid (hB.out.trans ((box_below wr _).trans (hB3.mono (box_below wr _).size) |>.mono hB.out.size)), Lib.hid ?_⟩, by simp [intOf]; omega⟩
          rw [List.take_add_one, HE.out]
          intro y hy
          rcases List.mem_append.1 hy with hy | hy
          · exact HQ.out y hy
          · obtain rfl := by simpa using hy
            exact HX.out
      · obtain rfl : k = m := by omega
        go_wp2
        go_ret
        refine ⟨ret_bool ?_, hB.out⟩
        symm
        have := HQ.out
        rw [List.take_of_length_le (by rw [HM.out]; exact Nat.le_refl _)] at this
        rw [List.all_eq_true]
        exact this
  · clear HC hi
    go_wp2
    go_loopw [51] (fun i w2 => ∃ k : Nat, k ≤ m ∧ i = .int .i64 k ∧ Hid (Below w.heap.size w w2) ∧ Hid (∀ x ∈ sub.take k, rightX (d + 1) x = true)) (fun i _ => m - (intOf i).toNat)
    case atStart => exact ⟨0, by omega, rfl, HB, Lib.hid (by simp)⟩
    case round =>
      obtain ⟨k, hk, rfl, hB, HQ⟩ := hrel
      by_cases hlt : k < m
      · obtain rfl := hsp (by omega)
        obtain ⟨e, he⟩ : ∃ e, sub[k]? = some e := ⟨_, List.getElem?_eq_getElem (by rw [HM.out]; exact hlt)⟩
        obtain ⟨eo, en, es, el⟩ := e
        obtain ⟨x0, x1, x2, x3, b', o', sp', c', x4, x5, x6⟩ := CellsAt.keep (keep_bel hB.out) _ _ _ (ListAt.at sub b o k _ HL.out he)
        have hi : ∀ W, Below wr.heap.size wr W → Calls Tryz.prog 36 #[.agg #[.string ⟨eo.toArray⟩, .int .u16 (en : Nat), .string ⟨es.toArray⟩, .slice sp' el.length c'], .int .i64 ((d : Int) + 1)] W fun r w' => r = .returned (.bool (rightX (d + 1) (.mk eo en es el))) ∧ Below W.heap.size W w' := fun W hW =>
          HI.out _ _ W (List.mem_of_getElem? he) (ExV.below hW ⟨x2, b', o', sp', c', rfl, x5, x6⟩) (by omega)
        obtain ⟨l', hl'⟩ : ∃ l', el.length = l' := ⟨_, rfl⟩
        rw [hl'] at x4 hi
        have HE := Lib.hid he
        obtain ⟨X, hX⟩ : ∃ X, rightX (d + 1) (.mk eo en es el) = X := ⟨_, rfl⟩
        rw [hX] at hi
        have HX := Lib.hid hX
        have HT := Lib.hid hi
        clear hX he x5 x6 hl' hi
        cases X
        · go_wp2_with (go_at_call 36; refine (HT.out _ (box_below _ _)).mono ?_; rintro r w3 ⟨rfl, hB3⟩)
          go_ret
          refine ⟨ret_bool ?_, hB.out.trans ((box_below wr _).trans (hB3.mono (box_below wr _).size) |>.mono hB.out.size)⟩
          symm
          rw [Bool.eq_false_iff]
          intro h
          rw [List.all_eq_true] at h
          have := h _ (List.mem_of_getElem? HE.out)
          rw [HX.out] at this
          cases this
        · go_wp2_with (go_at_call 36; refine (HT.out _ (box_below _ _)).mono ?_; rintro r w3 ⟨rfl, hB3⟩)
          refine ⟨⟨k + 1, by omega, by go_num, Lib.hid (hB.out.trans ((box_below wr _).trans (hB3.mono (box_below wr _).size) |>.mono hB.out.size)), Lib.hid ?_⟩, by simp [intOf]; omega⟩
          rw [List.take_add_one, HE.out]
          intro y hy
          rcases List.mem_append.1 hy with hy | hy
          · exact HQ.out y hy
          · obtain rfl := by simpa using hy
            exact HX.out
      · obtain rfl : k = m := by omega
        go_wp2
        go_ret
        refine ⟨ret_bool ?_, hB.out⟩
        symm
        have := HQ.out
        rw [List.take_of_length_le (by rw [HM.out]; exact Nat.le_refl _)] at this
        rw [List.all_eq_true]
        exact this
  · rw [hpn] at hi
    clear HC
    go_wp2_with (go_at_call 53; refine (hi _).mono ?_; rintro e w1 ⟨rfl, hB1⟩; have d3 := keep_bel hB1 _ _ (show (w0.drewN nq).cell? ⟨w.heap.size, 3, none⟩ = _ from c3); have d0 := keep_bel hB1 _ _ (show (w0.drewN nq).cell? ⟨w.heap.size, 0, none⟩ = _ from c0))
    have HB := Lib.hid (HB.out.trans (hB1.mono HB.out.size))
    clear hB1
    go_loopw [51] (fun i w2 => ∃ k : Nat, k ≤ m ∧ i = .int .i64 k ∧ Hid (Below w.heap.size w w2) ∧ Hid (∀ x ∈ sub.take k, rightX (d + 1) x = true)) (fun i _ => m - (intOf i).toNat)
    case atStart => exact ⟨0, by omega, rfl, HB, Lib.hid (by simp)⟩
    case round =>
      obtain ⟨k, hk, rfl, hB, HQ⟩ := hrel
      by_cases hlt : k < m
      · obtain rfl := hsp (by omega)
        obtain ⟨e, he⟩ : ∃ e, sub[k]? = some e := ⟨_, List.getElem?_eq_getElem (by rw [HM.out]; exact hlt)⟩
        obtain ⟨eo, en, es, el⟩ := e
        obtain ⟨x0, x1, x2, x3, b', o', sp', c', x4, x5, x6⟩ := CellsAt.keep (keep_bel hB.out) _ _ _ (ListAt.at sub b o k _ HL.out he)
        have hi : ∀ W, Below wr.heap.size wr W → Calls Tryz.prog 36 #[.agg #[.string ⟨eo.toArray⟩, .int .u16 (en : Nat), .string ⟨es.toArray⟩, .slice sp' el.length c'], .int .i64 ((d : Int) + 1)] W fun r w' => r = .returned (.bool (rightX (d + 1) (.mk eo en es el))) ∧ Below W.heap.size W w' := fun W hW =>
          HI.out _ _ W (List.mem_of_getElem? he) (ExV.below hW ⟨x2, b', o', sp', c', rfl, x5, x6⟩) (by omega)
        obtain ⟨l', hl'⟩ : ∃ l', el.length = l' := ⟨_, rfl⟩
        rw [hl'] at x4 hi
        have HE := Lib.hid he
        obtain ⟨X, hX⟩ : ∃ X, rightX (d + 1) (.mk eo en es el) = X := ⟨_, rfl⟩
        rw [hX] at hi
        have HX := Lib.hid hX
        have HT := Lib.hid hi
        clear hX he x5 x6 hl' hi
        cases X
        · go_wp2_with (go_at_call 36; refine (HT.out _ (box_below _ _)).mono ?_; rintro r w3 ⟨rfl, hB3⟩)
          go_ret
          refine ⟨ret_bool ?_, hB.out.trans ((box_below wr _).trans (hB3.mono (box_below wr _).size) |>.mono hB.out.size)⟩
          symm
          rw [Bool.eq_false_iff]
          intro h
          rw [List.all_eq_true] at h
          have := h _ (List.mem_of_getElem? HE.out)
          rw [HX.out] at this
          cases this
        · go_wp2_with (go_at_call 36; refine (HT.out _ (box_below _ _)).mono ?_; rintro r w3 ⟨rfl, hB3⟩)
          refine ⟨⟨k + 1, by omega, by go_num, Lib.hid (hB.out.trans ((box_below wr _).trans (hB3.mono (box_below wr _).size) |>.mono hB.out.size)), Lib.hid ?_⟩, by simp [intOf]; omega⟩
          rw [List.take_add_one, HE.out]
          intro y hy
          rcases List.mem_append.1 hy with hy | hy
          · exact HQ.out y hy
          · obtain rfl := by simpa using hy
            exact HX.out
      · obtain rfl : k = m := by omega
        go_wp2
        go_ret
        refine ⟨ret_bool ?_, hB.out⟩
        symm
        have := HQ.out
        rw [List.take_of_length_le (by rw [HM.out]; exact Nat.le_refl _)] at this
        rw [List.all_eq_true]
        exact this
theorem pright_ind : ∀ (N : Nat) (e : Ex), SizeOf.sizeOf e ≤ N → ∀ (d : Nat) (v : Value) (w : World), shortX e = true → d ≤ 25 → ExV w v e →
    Calls Tryz.prog 36 #[v, .int .i64 d] w fun r w' => r = .returned (.bool (rightX d e)) ∧ Below w.heap.size w w'
  | 0, .mk op n name sub, h, _, _, _, _, _, _ => by simp at h
  | N + 1, .mk op n name sub, h, d, v, w, hs, hd, hv => by
    refine pright_step op n name sub d v w hs hd hv fun e v w he hev hd' => ?_
    have h1 : SizeOf.sizeOf e ≤ N := by
      have := List.sizeOf_lt_of_mem he
      simp at h
      omega
    have h2 : shortX e = true := by
      simp only [shortX, Bool.and_eq_true] at hs
      exact shortS_mem hs.2 he
    have := pright_ind N e h1 (d + 1) v w h2 hd' hev
    simpa using this
theorem pRight_any (v : Value) (e : Ex) (w : World) (hs : shortX e = true) (hv : ExV w v e) : Calls Tryz.prog 24 #[v] w fun r w' => r = .returned (.int .i64 (rightK e : Nat)) ∧ Below w.heap.size w w' := by
  have hi := fun v w hv => pright_ind (SizeOf.sizeOf e) e (Nat.le_refl _) 1 v w hs (by omega) hv
  obtain ⟨op, n, name, sub⟩ := e
  have hv' := hv
  obtain ⟨hn, b, o, sp, c, rfl, hsp, hl⟩ := hv
  obtain ⟨X, hX⟩ : ∃ X, rightX 1 (.mk op n name sub) = X := ⟨_, rfl⟩
  rw [hX] at hi
  have hk : rightK (.mk op n name sub) = if X = true then 0 else 2 := by unfold rightK; rw [hX]
  rw [hk]
  have hB0 := box_below w (Obj.cells #[Value.string ⟨op.toArray⟩, Value.int .u16 n, Value.string ⟨name.toArray⟩, Value.slice sp sub.length c] 25)
  have hc := hi _ (w.alloc (Obj.cells #[Value.string ⟨op.toArray⟩, Value.int .u16 n, Value.string ⟨name.toArray⟩, Value.slice sp sub.length c] 25)) (hv'.below hB0)
  have hc' := hi _ w hv'
  have HB := Lib.hid hB0
  clear hi hX hk hv' hl hsp hB0
  cases X
  all_goals
    go_enter Tryz.func24, Tryz.ntmps24
    go_wp2_with (go_at_call 36; first | (refine hc.mono ?_; rintro e w2 ⟨rfl, hB⟩) | (refine hc'.mono ?_; rintro e w2 ⟨rfl, hB⟩))
    go_ret
    first | exact ⟨rfl, hB⟩ | exact ⟨rfl, HB.out.trans (hB.mono HB.out.size)⟩
end Go.Proofs.YtaoeipbofhkkcaaGreatDoor
