/- What the law's Light, count and small of expressions do when they are called; no condition but that the depth asked for is at most 1000. What the law's count and small of expressions do when they are called; no condition. How long the text of a small expression is; no condition. -/
import Derived.Test.YtaoeipbofhkkcaaGreatDoorExRgtb
namespace Go.Proofs.YtaoeipbofhkkcaaGreatDoor
open Go.RowKit Go.Proofs.NumMath

mutual
def lightX : Nat → Ex → Bool
  | d, .mk op _ name sub => decide (d ≠ 0) && decide (sub.length ≤ 3) && decide (op.length ≤ 50) && decide (name.length ≤ 50) && lightS (d - 1) sub
def lightS : Nat → List Ex → Bool
  | _, [] => true
  | d, e :: l => lightX d e && lightS d l
end
theorem lightS_all : ∀ (l : List Ex) (d : Nat), lightS d l = l.all (lightX d)
  | [], d => by simp [lightS]
  | e :: l, d => by simp only [lightS, List.all_cons, lightS_all l d]
mutual
theorem lightX_short : ∀ (e : Ex) (d : Nat), lightX d e = true → shortX e = true
  | .mk op n name sub, d, h => by
    simp only [lightX, Bool.and_eq_true, decide_eq_true_eq] at h
    simp only [shortX, Bool.and_eq_true, decide_eq_true_eq]
    exact ⟨⟨⟨by omega, by omega⟩, by omega⟩, lightS_short sub (d - 1) h.2⟩
theorem lightS_short : ∀ (l : List Ex) (d : Nat), lightS d l = true → shortS l = true
  | [], d, h => by simp [shortS]
  | e :: l, d, h => by
    simp only [lightS, Bool.and_eq_true] at h
    simp only [shortS, Bool.and_eq_true]
    exact ⟨lightX_short e d h.1, lightS_short l d h.2⟩
end
def lheadX (d : Nat) (op name : List UInt8) (m : Nat) : Bool := decide (d ≠ 0) && decide (m ≤ 3) && decide (op.length ≤ 50) && decide (name.length ≤ 50)
theorem light_head (d : Nat) (op : List UInt8) (n : Nat) (name : List UInt8) (sub : List Ex) : lightX d (.mk op n name sub) = (lheadX d op name sub.length && sub.all (lightX (d - 1))) := by
  rw [lightX, lightS_all]; rfl
set_option maxHeartbeats 4000000 in
theorem light_step (op : List UInt8) (n : Nat) (name : List UInt8) (sub : List Ex) (d : Nat) (v : Value) (w : World) (hd : d ≤ 1000) (hv : ExV w v (.mk op n name sub))
    (ih : ∀ (e : Ex) (v : Value) (w : World), e ∈ sub → ExV w v e → d ≠ 0 → Calls Tryz.prog 21 #[v, .int .i64 ((d : Int) - 1)] w fun r w' => r = .returned (.bool (lightX (d - 1) e)) ∧ Below w.heap.size w w') :
    Calls Tryz.prog 21 #[v, .int .i64 d] w fun r w' => r = .returned (.bool (lightX d (.mk op n name sub))) ∧ Below w.heap.size w w' := by
  obtain ⟨hn, b, o, sp, c, rfl, hsp, hl⟩ := hv
  rw [light_head]
  obtain ⟨m, hm⟩ : ∃ m, sub.length = m := ⟨_, rfl⟩
  rw [hm] at hsp ⊢
  have H2 := Lib.hid hm
  have HL := Lib.hid hl
  have HI := Lib.hid ih
  clear hm hl ih
  have so := bsize op
  have sn := bsize name
  have SO := Lib.hid so
  have SN := Lib.hid sn
  obtain ⟨OP, hOP⟩ : ∃ OP : ByteArray, (⟨op.toArray⟩ : ByteArray) = OP := ⟨_, rfl⟩
  obtain ⟨NM, hNM⟩ : ∃ NM : ByteArray, (⟨name.toArray⟩ : ByteArray) = NM := ⟨_, rfl⟩
  have e1 : op.length = OP.size := by rw [← hOP, so]
  have e2 : name.length = NM.size := by rw [← hNM, sn]
  have hf : lheadX d op name m = (decide (d ≠ 0) && decide (m ≤ 3) && decide (OP.size ≤ 50) && decide (NM.size ≤ 50)) := by unfold lheadX; rw [e1, e2]
  rw [hf]
  rw [hOP, hNM]
  clear so sn SO SN hOP hNM e1 e2 hf
  by_cases hd0 : d = 0
  · subst hd0
    go_enter Tryz.func21, Tryz.ntmps21
    go_wp2
    go_ret
    exact ⟨rfl, box_below _ _⟩
  have hdz : ((d : Int) == 0) = false := by rw [beq_eq_false_iff_ne]; omega
  by_cases hm3 : m ≤ 3
  case neg =>
    rw [show (decide (d ≠ 0) && decide (m ≤ 3) && decide (OP.size ≤ 50) && decide (NM.size ≤ 50)) = false by simp [hm3]]
    go_enter Tryz.func21, Tryz.ntmps21
    go_wp2
    go_ret
    exact ⟨rfl, box_below _ _⟩
  by_cases ho : OP.size ≤ 50
  case neg =>
    rw [show (decide (d ≠ 0) && decide (m ≤ 3) && decide (OP.size ≤ 50) && decide (NM.size ≤ 50)) = false by simp [ho]]
    go_enter Tryz.func21, Tryz.ntmps21
    go_wp2
    go_ret
    exact ⟨rfl, box_below _ _⟩
  by_cases hn50 : NM.size ≤ 50
  case neg =>
    rw [show (decide (d ≠ 0) && decide (m ≤ 3) && decide (OP.size ≤ 50) && decide (NM.size ≤ 50)) = false by simp [hn50]]
    go_enter Tryz.func21, Tryz.ntmps21
    go_wp2
    go_ret
    exact ⟨rfl, box_below _ _⟩
  rw [show (decide (d ≠ 0) && decide (m ≤ 3) && decide (OP.size ≤ 50) && decide (NM.size ≤ 50)) = true by simp [hd0, hm3, ho, hn50], Bool.true_and]
  go_enter Tryz.func21, Tryz.ntmps21
  go_wp2
  go_loopw [5] (fun i wr => ∃ k : Nat, k ≤ m ∧ i = .int .i64 k ∧ Below w.heap.size w wr ∧ Hid (wr.cell? ⟨w.heap.size, 3, none⟩ = some (.slice sp m c)) ∧ Hid (∀ x ∈ sub.take k, lightX (d - 1) x = true)) (fun i _ => m - (intOf i).toNat)
  case atStart => exact ⟨0, by omega, rfl, box_below _ _, Lib.hid (box_at3 _ _ _ _ _), Lib.hid (by simp)⟩
  case round =>
    obtain ⟨k, hk, rfl, hB, HC3, HQ⟩ := hrel
    have hc3 := HC3.out
    by_cases hlt : k < m
    · obtain rfl := hsp (by omega)
      obtain ⟨e, he⟩ : ∃ e, sub[k]? = some e := ⟨_, List.getElem?_eq_getElem (by rw [H2.out]; exact hlt)⟩
      obtain ⟨v0, v1, v2, v3, x0, x1, x2, x3, hev⟩ := (CellsAt.keep (keep_bel hB) _ _ _ (ListAt.at sub b o k e HL.out he)).val
      have hi := HI.out e _ wr (List.mem_of_getElem? he) hev hd0
      have HE := Lib.hid he
      clear he hev
      obtain ⟨X, hX⟩ : ∃ X, lightX (d - 1) e = X := ⟨_, rfl⟩
      rw [hX] at hi
      have HX := Lib.hid hX
      clear hX
      cases X
      · go_wp2_with (go_at_call 21; refine hi.mono ?_; rintro r w2 ⟨rfl, hB2⟩)
        go_ret
        refine ⟨ret_bool ?_, hB.trans (hB2.mono hB.size)⟩
        symm
        rw [Bool.eq_false_iff]
        intro h
        rw [List.all_eq_true] at h
        have := h e (List.mem_of_getElem? HE.out)
        rw [HX.out] at this
        cases this
      · go_wp2_with (go_at_call 21; refine hi.mono ?_; rintro r w2 ⟨rfl, hB2⟩)
        refine ⟨⟨k + 1, by omega, by go_num, hB.trans (hB2.mono hB.size), Lib.hid (keep_bel hB2 _ _ hc3), Lib.hid ?_⟩, by simp [intOf]; omega⟩
        rw [List.take_add_one, HE.out]
        intro y hy
        rcases List.mem_append.1 hy with hy | hy
        · exact HQ.out y hy
        · obtain rfl : y = e := by simpa using hy
          exact HX.out
    · obtain rfl : k = m := by omega
      go_wp2
      go_ret
      refine ⟨ret_bool ?_, hB⟩
      symm
      have := HQ.out
      rw [List.take_of_length_le (by rw [H2.out]; exact Nat.le_refl _)] at this
      rw [List.all_eq_true]
      exact this
theorem light_ind : ∀ (N : Nat) (e : Ex), SizeOf.sizeOf e ≤ N → ∀ (d : Nat) (v : Value) (w : World), d ≤ 1000 → ExV w v e →
    Calls Tryz.prog 21 #[v, .int .i64 d] w fun r w' => r = .returned (.bool (lightX d e)) ∧ Below w.heap.size w w'
  | 0, .mk op n name sub, h, _, _, _, _, _ => by simp at h
  | N + 1, .mk op n name sub, h, d, v, w, hd, hv => by
    refine light_step op n name sub d v w hd hv fun e v w he hev hd' => ?_
    have h1 : SizeOf.sizeOf e ≤ N := by
      have := List.sizeOf_lt_of_mem he
      simp at h
      omega
    have := light_ind N e h1 (d - 1) v w (by omega) hev
    rwa [show ((d - 1 : Nat) : Int) = (d : Int) - 1 by omega] at this
end Go.Proofs.YtaoeipbofhkkcaaGreatDoor
namespace Go.Proofs.YtaoeipbofhkkcaaGreatDoor
open Go.RowKit Go.Proofs.NumMath

mutual
/-- how many expressions there are in a tree -/
def nodesX : Ex → Nat
  | .mk _ _ _ sub => 1 + nodesS sub
def nodesS : List Ex → Nat
  | [] => 0
  | e :: l => nodesX e + nodesS l
end
theorem nodesS_snoc : ∀ (l : List Ex) (e : Ex), nodesS (l ++ [e]) = nodesS l + nodesX e
  | [], e => by simp [nodesS]
  | x :: l, e => by
    rw [List.cons_append, nodesS, nodesS, nodesS_snoc l e]; omega
/-- what count answers: the number of expressions, where that is at most 300 -/
def Counts (d : Nat) (e : Ex) (c : Nat) : Prop := c ≤ 300 * d + 1 ∧ (c ≤ 300 → nodesX e = c)
set_option maxHeartbeats 4000000 in
theorem count_step (op : List UInt8) (n : Nat) (name : List UInt8) (sub : List Ex) (d : Nat) (v : Value) (w : World) (hd : d ≤ 1000) (hm3 : sub.length ≤ 3) (hv : ExV w v (.mk op n name sub))
    (ih : ∀ (e : Ex) (v : Value) (w : World), e ∈ sub → ExV w v e → 1 ≤ d ∧ Calls Tryz.prog 22 #[v] w fun r w' => ∃ c : Nat, r = .returned (.int .i64 c) ∧ Counts (d - 1) e c ∧ Below w.heap.size w w') :
    Calls Tryz.prog 22 #[v] w fun r w' => ∃ c : Nat, r = .returned (.int .i64 c) ∧ Counts d (.mk op n name sub) c ∧ Below w.heap.size w w' := by
  obtain ⟨hn, b, o, sp, c, rfl, hsp, hl⟩ := hv
  obtain ⟨m, hm⟩ : ∃ m, sub.length = m := ⟨_, rfl⟩
  rw [hm] at hsp hm3 ⊢
  have H2 := Lib.hid hm
  have HL := Lib.hid hl
  have HI := Lib.hid ih
  clear hm hl ih
  go_enter Tryz.func22, Tryz.ntmps22
  go_wp2
  go_loopw [3, 4] (fun x i wr => ∃ k s : Nat, k ≤ m ∧ i = .int .i64 k ∧ x = .int .i64 s ∧ s ≤ 300 * d + 1 ∧ Below w.heap.size w wr ∧ Hid (wr.cell? ⟨w.heap.size, 3, none⟩ = some (.slice sp m c)) ∧ Hid (s ≤ 300 → 1 + nodesS (sub.take k) = s)) (fun _ i _ => m - (intOf i).toNat)
  case atStart => exact ⟨0, 1, by omega, rfl, rfl, by omega, box_below _ _, Lib.hid (box_at3 _ _ _ _ _), Lib.hid (by simp [nodesS])⟩
  case round =>
    obtain ⟨k, s, hk, rfl, rfl, hs, hB, HC3, HQ⟩ := hrel
    have hc3 := HC3.out
    by_cases hlt : k < m
    · by_cases h300 : s ≤ 300
      · obtain rfl := hsp (by omega)
        obtain ⟨e, he⟩ : ∃ e, sub[k]? = some e := ⟨_, List.getElem?_eq_getElem (by rw [H2.out]; exact hlt)⟩
        obtain ⟨v0, v1, v2, v3, x0, x1, x2, x3, hev⟩ := (CellsAt.keep (keep_bel hB) _ _ _ (ListAt.at sub b o k e HL.out he)).val
        obtain ⟨hd1, hi⟩ := HI.out e _ wr (List.mem_of_getElem? he) hev
        have HE := Lib.hid he
        clear he hev
        go_wp2_with (go_at_call 22; refine hi.mono ?_; rintro r w2 ⟨c', rfl, ⟨hcb, hcn⟩, hB2⟩; have HCN := Lib.hid hcn; clear hcn)
        refine ⟨⟨k + 1, s + c', by omega, by go_num, by go_num, by omega, hB.trans (hB2.mono hB.size), Lib.hid (keep_bel hB2 _ _ hc3), Lib.hid fun h => ?_⟩, by simp [intOf]; omega⟩
        rw [List.take_add_one, HE.out, Option.toList_some, nodesS_snoc, HCN.out (by omega)]
        have := HQ.out h300
        omega
      · go_wp2
        go_ret
        exact ⟨s, rfl, ⟨hs, fun h => absurd h h300⟩, hB⟩
    · obtain rfl : k = m := by omega
      go_wp2
      go_ret
      refine ⟨s, rfl, ⟨hs, fun h => ?_⟩, hB⟩
      have := HQ.out h
      rw [List.take_of_length_le (by rw [H2.out]; exact Nat.le_refl _)] at this
      rw [nodesX]; exact this
theorem count_ind : ∀ (d : Nat) (e : Ex), d ≤ 1000 → lightX d e = true → ∀ (v : Value) (w : World), ExV w v e →
    Calls Tryz.prog 22 #[v] w fun r w' => ∃ c : Nat, r = .returned (.int .i64 c) ∧ Counts d e c ∧ Below w.heap.size w w'
  | 0, .mk op n name sub, _, h, _, _, _ => by simp [lightX] at h
  | d + 1, .mk op n name sub, hd, h, v, w, hv => by
    rw [light_head, Bool.and_eq_true] at h
    have hm3 : sub.length ≤ 3 := by
      have := h.1
      simp only [lheadX, Bool.and_eq_true, decide_eq_true_eq] at this
      exact this.1.1.2
    refine count_step op n name sub (d + 1) v w hd hm3 hv fun e v w he hev => ⟨by omega, ?_⟩
    exact count_ind d e (by omega) (List.all_eq_true.1 h.2 e he) v w hev
theorem box_cells' (w : World) (u0 u1 u2 u3 : Value) : (w.alloc (Obj.cells #[u0, u1, u2, u3] 25)).cell? ⟨w.heap.size, 0, none⟩ = some u0 ∧ (w.alloc (Obj.cells #[u0, u1, u2, u3] 25)).cell? ⟨w.heap.size, 1, none⟩ = some u1 ∧ (w.alloc (Obj.cells #[u0, u1, u2, u3] 25)).cell? ⟨w.heap.size, 2, none⟩ = some u2 ∧ (w.alloc (Obj.cells #[u0, u1, u2, u3] 25)).cell? ⟨w.heap.size, 3, none⟩ = some u3 := cells_box (heap_alloc_new w _)
/-- what small answers -/
def smallX (e : Ex) : Prop := lightX 40 e = true ∧ nodesX e ≤ 300
theorem small_any (v : Value) (e : Ex) (w : World) (hv : ExV w v e) : Calls Tryz.prog 8 #[v] w fun r w' => ∃ b : Bool, r = .returned (.bool b) ∧ (b = true → smallX e) ∧ Below w.heap.size w w' := by
  have hL := fun v w hv => light_ind (SizeOf.sizeOf e) e (Nat.le_refl _) 40 v w (by omega) hv
  have hC := count_ind 40 e (by omega)
  have hv' := hv
  obtain ⟨op, n, name, sub⟩ := e
  obtain ⟨hn, b, o, sp, c, rfl, hsp, hl⟩ := hv
  obtain ⟨X, hX⟩ : ∃ X, lightX 40 (.mk op n name sub) = X := ⟨_, rfl⟩
  rw [hX] at hL hC
  have hB0 := box_below w (Obj.cells #[Value.string ⟨op.toArray⟩, Value.int .u16 n, Value.string ⟨name.toArray⟩, Value.slice sp sub.length c] 25)
  have hl1 := hL _ _ (hv'.below hB0)
  obtain ⟨b0, b1, b2, b3⟩ := box_cells' w (Value.string ⟨op.toArray⟩) (Value.int .u16 n) (Value.string ⟨name.toArray⟩) (Value.slice sp sub.length c)
  have HB := Lib.hid hB0
  have HV := Lib.hid (hv'.below hB0)
  have HX := Lib.hid hX
  clear hL hX hv' hl hsp hB0
  cases X
  · clear hC
    go_enter Tryz.func8, Tryz.ntmps8
    go_wp2_with (go_at_call 21; refine hl1.mono ?_; rintro r w2 ⟨rfl, hB⟩)
    go_ret
    exact ⟨false, rfl, fun h => absurd h (by decide), HB.out.trans (hB.mono HB.out.size)⟩
  · have HC := Lib.hid (hC rfl)
    clear hC
    go_enter Tryz.func8, Tryz.ntmps8
    go_wp2_with (first
      | (go_at_call 21; refine hl1.mono ?_; rintro r w2 ⟨rfl, hB⟩; have d0 := keep_bel hB _ _ b0; have d1 := keep_bel hB _ _ b1; have d2 := keep_bel hB _ _ b2; have d3 := keep_bel hB _ _ b3; have hc2 := HC.out _ _ (HV.out.below hB))
      | (go_at_call 22; refine hc2.mono ?_; rintro r w3 ⟨c', rfl, hcn, hB3⟩; have HCN := Lib.hid hcn; clear hcn))
    go_ret
    refine ⟨decide ((c' : Int) ≤ 300), rfl, fun h => ⟨HX.out, ?_⟩, HB.out.trans ((hB.mono HB.out.size).trans (hB3.mono (Nat.le_trans HB.out.size hB.size)))⟩
    have h3 : c' ≤ 300 := by
      have := of_decide_eq_true h
      omega
    rw [HCN.out.2 h3]
    exact h3
end Go.Proofs.YtaoeipbofhkkcaaGreatDoor
namespace Go.Proofs.YtaoeipbofhkkcaaGreatDoor
open Go.Proofs.NumMath

theorem showL_len (n : Nat) (hn : n ≤ 65535) : (showL n).length ≤ 6 := by
  unfold showL hexL
  have := digits_len true 16 (by omega) 3 n (by omega)
  repeat' split
  all_goals simp
  all_goals omega
theorem parT_len (c : Bool) (s : List UInt8) : (parT c s).length ≤ s.length + 4 := by
  cases c <;> simp [parT]
theorem txt2_len (o : O2) : (txt2 o).length ≤ 3 := by cases o <;> decide
theorem textR_len : ∀ (r : RE) (w : Nat), okR r = true → (textR r w).length ≤ 20 * nodesX (toEx r)
  | .num n, w, h => by
    simp only [okR, decide_eq_true_eq] at h
    have := showL_len n h
    simp only [textR, toEx, nodesX, nodesS]
    omega
  | .nam s, w, h => by
    simp only [okR, nameL, Bool.and_eq_true, decide_eq_true_eq] at h
    have := h.1.1.1.1.2
    simp only [textR, toEx, nodesX, nodesS]
    omega
  | .here, w, _ => by simp [textR, toEx, nodesX, nodesS]
  | .un .inv a, w, h => by
    simp only [okR] at h
    have := textR_len a 3 h
    have := parT_len (decide (3 < w)) ([78, 79, 84, 32] ++ textR a 3)
    simp only [textR, toEx, nodesX, nodesS]
    simp only [List.length_append, List.length_cons, List.length_nil] at this
    omega
  | .un .neg a, w, h => by
    simp only [okR] at h
    have := textR_len a 6 h
    have := parT_len (decide (6 < w)) ([45, 32] ++ textR a 6)
    simp only [textR, toEx, nodesX, nodesS]
    simp only [List.length_append, List.length_cons, List.length_nil] at this
    omega
  | .bin o a b, w, h => by
    simp only [okR, Bool.and_eq_true] at h
    have := textR_len a (rk2 o) h.1
    have := textR_len b (rk2 o + 1) h.2
    have := txt2_len o
    have := parT_len (decide (rk2 o < w)) (textR a (rk2 o) ++ [32] ++ txt2 o ++ [32] ++ textR b (rk2 o + 1))
    simp only [textR, toEx, nodesX, nodesS]
    simp only [List.length_append, List.length_cons, List.length_nil] at this
    omega
end Go.Proofs.YtaoeipbofhkkcaaGreatDoor
