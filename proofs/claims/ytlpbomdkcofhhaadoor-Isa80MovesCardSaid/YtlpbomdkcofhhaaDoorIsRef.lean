/- What the document's Name, Args, Size and Texts answer: of an opcode's form; the rows that are held against each other are short. -/
import Derived.Test.YtlpbomdkcofhhaaDoorIsMath
import Derived.LoopTactic
namespace Go.Proofs.YtlpbomdkcofhhaaDoor
open Go.RowKit

theorem below_trans {w W w1 : World} (h : Below w.heap.size w W) (hb : Below W.heap.size W w1) : Below w.heap.size w w1 := h.trans (hb.mono h.size)
/-- the cell of a form, in the block of them all -/
theorem forms_cell {op : Nat} {s : List UInt8} (h : formsL[op]? = some s) (w : World) : (w.alloc (.cells (formsL.map fun s => Value.string ⟨s.toArray⟩).toArray 9)).cell? ⟨w.heap.size, op, none⟩ = some (.string ⟨s.toArray⟩) := by
  have h1 := heap_alloc_new w (.cells (formsL.map fun s => Value.string ⟨s.toArray⟩).toArray 9)
  unfold World.cell?
  simp only [h1]
  simp [h]
theorem wordsOf_cons {f : Fm} (h : f.1 ≠ []) : wordsOf f = f.1 :: f.2 := by unfold wordsOf; rw [if_neg h]
theorem wordsOf_nil {f : Fm} (h : f.1 = []) : wordsOf f = [] := by unfold wordsOf; rw [if_pos h]
set_option maxHeartbeats 1000000 in
theorem rname_any (op : Nat) (h : op < 256) (w : World) : Calls Tryd.prog 10 #[.int .u8 op] w fun e w' => e = .returned (.string ⟨(formL op).1.toArray⟩) ∧ Below w.heap.size w w' := by
  obtain ⟨s, hs, hsl, hw⟩ := words_form h
  have hc := forms_cell hs w
  have hB := (Below.refl w.heap.size w).alloc (Nat.le_refl _) (.cells (formsL.map fun s => Value.string ⟨s.toArray⟩).toArray 9)
  have HF := Lib.hid (forms_any w)
  have HW := Lib.hid (fun W => words_any s hsl W)
  rw [hw] at HW
  clear hw hs hsl
  generalize formL op = f at HW ⊢
  generalize w.alloc (.cells (formsL.map fun s => Value.string ⟨s.toArray⟩).toArray 9) = w0 at hc hB HF
  have HB := Lib.hid hB
  clear hB
  by_cases h0 : f.1 = []
  · rw [wordsOf_nil h0] at HW
    go_enter Tryd.func10, Tryd.ntmps10
    go_wp2_with (first
      | (go_at_call 31; refine HF.out.mono ?_; rintro _ _ ⟨rfl, rfl⟩)
      | (go_at_call 30; refine (HW.out _).mono ?_; rintro _ w1 ⟨v, rfl, ⟨b, o, sp, c, rfl, _, _, _⟩, hb1⟩; have HB1 := Lib.hid hb1; clear hb1))
    go_ret
    exact ⟨by rw [h0]; rfl, below_trans HB.out HB1.out⟩
  · rw [wordsOf_cons h0] at HW
    go_enter Tryd.func10, Tryd.ntmps10
    go_wp2_with (first
      | (go_at_call 31; refine HF.out.mono ?_; rintro _ _ ⟨rfl, rfl⟩)
      | (go_at_call 30; refine (HW.out _).mono ?_; rintro _ w1 ⟨v, rfl, hR, hb1⟩; obtain ⟨b, o, c, rfl, hc1, k0, hTl⟩ := textR_tail hR; unfold strV at k0; have HB1 := Lib.hid hb1; have HTl := Lib.hid hTl; clear hb1 hTl hR))
    go_ret
    exact ⟨rfl, below_trans HB.out HB1.out⟩
set_option maxHeartbeats 1000000 in
theorem rargs_any (op : Nat) (h : op < 256) (w : World) : Calls Tryd.prog 13 #[.int .u8 op] w fun e w' => ∃ v, e = .returned v ∧ TextR w' v (formL op).2 ∧ Below w.heap.size w w' := by
  obtain ⟨s, hs, hsl, hw⟩ := words_form h
  have hc := forms_cell hs w
  have hB := (Below.refl w.heap.size w).alloc (Nat.le_refl _) (.cells (formsL.map fun s => Value.string ⟨s.toArray⟩).toArray 9)
  have HF := Lib.hid (forms_any w)
  have HW := Lib.hid (fun W => words_any s hsl W)
  rw [hw] at HW
  clear hw hs hsl
  have hn := (size_form h).2.2.2.2
  generalize formL op = f at HW hn ⊢
  generalize w.alloc (.cells (formsL.map fun s => Value.string ⟨s.toArray⟩).toArray 9) = w0 at hc hB HF
  have HB := Lib.hid hB
  clear hB
  by_cases h0 : f.1 = []
  · rw [wordsOf_nil h0] at HW
    go_enter Tryd.func13, Tryd.ntmps13
    go_wp2_with (first
      | (go_at_call 31; refine HF.out.mono ?_; rintro _ _ ⟨rfl, rfl⟩)
      | (go_at_call 30; refine (HW.out _).mono ?_; rintro _ w1 ⟨v, rfl, ⟨b, o, sp, c, rfl, _, _, _⟩, hb1⟩; have HB1 := Lib.hid hb1; clear hb1))
    go_ret
    exact ⟨_, rfl, by rw [hn h0]; exact textR_nil _, below_trans HB.out HB1.out⟩
  · rw [wordsOf_cons h0] at HW
    go_enter Tryd.func13, Tryd.ntmps13
    go_wp2_with (first
      | (go_at_call 31; refine HF.out.mono ?_; rintro _ _ ⟨rfl, rfl⟩)
      | (go_at_call 30; refine (HW.out _).mono ?_; rintro _ w1 ⟨v, rfl, hR, hb1⟩; obtain ⟨b, o, c, rfl, hc1, k0, hTl⟩ := textR_tail hR; unfold strV at k0; have HB1 := Lib.hid hb1; have HTl := Lib.hid hTl; clear hb1 hTl hR))
    all_goals go_ret
    all_goals exact ⟨_, rfl, by simpa [*] using HTl.out, below_trans HB.out HB1.out⟩
theorem textR_last {w : World} {v : Value} {x : List UInt8} {l : List (List UInt8)} (h : TextR w v (x :: l)) : ∃ b o c, v = .slice (some ⟨b, o, none⟩) (l.length + 1) c ∧ l.length + 1 ≤ c ∧ w.cell? ⟨b, o + l.length, none⟩ = some (.string ⟨((x :: l).getLastD []).toArray⟩) := by
  obtain ⟨b, o, sp, c, rfl, hc, h2, h3⟩ := h
  obtain rfl := h2 (by simp)
  refine ⟨b, o, c, rfl, hc, ?_⟩
  have := h3 l.length ((x :: l).getLastD []) (by
    rw [List.getLastD_eq_getLast?, List.getLast?_eq_getElem?]
    simp)
  exact this
set_option maxHeartbeats 1000000 in
theorem rsize_any (op : Nat) (h : op < 256) (w : World) : Calls Tryd.prog 15 #[.int .u8 op] w fun e w' => e = .returned (.int .i64 (sizeF (formL op) : Nat)) ∧ Below w.heap.size w w' := by
  rw [← (size_form h).1]
  obtain ⟨s, hs, hsl, hw⟩ := words_form h
  have hc := forms_cell hs w
  have hB := (Below.refl w.heap.size w).alloc (Nat.le_refl _) (.cells (formsL.map fun s => Value.string ⟨s.toArray⟩).toArray 9)
  have HF := Lib.hid (forms_any w)
  have HW := Lib.hid (fun W => words_any s hsl W)
  rw [hw] at HW
  clear hw hs hsl
  have hm := (size_form h).2.1
  generalize formL op = f at HW hm ⊢
  generalize w.alloc (.cells (formsL.map fun s => Value.string ⟨s.toArray⟩).toArray 9) = w0 at hc hB HF
  have HB := Lib.hid hB
  clear hB
  unfold sizeR
  by_cases h0 : f.1 = []
  · rw [wordsOf_nil h0] at HW ⊢
    rw [if_pos rfl]
    go_enter Tryd.func15, Tryd.ntmps15
    go_wp2_with (first
      | (go_at_call 31; refine HF.out.mono ?_; rintro _ _ ⟨rfl, rfl⟩)
      | (go_at_call 30; refine (HW.out _).mono ?_; rintro _ w1 ⟨v, rfl, ⟨b, o, sp, c, rfl, _, _, _⟩, hb1⟩; have HB1 := Lib.hid hb1; clear hb1))
    go_ret
    exact ⟨rfl, below_trans HB.out HB1.out⟩
  · rw [wordsOf_cons h0] at HW ⊢
    rw [if_neg (by simp)]
    obtain ⟨y, hy⟩ : ∃ y, (f.1 :: f.2).getLastD [] = y := ⟨_, rfl⟩
    have ht := fun (w : World) (v : Value) (h : TextR w v (f.1 :: f.2)) => textR_last h
    rw [hy] at ht ⊢
    have HT := Lib.hid ht
    clear hy ht h0
    generalize f.1 :: f.2 = ws at HW HT
    generalize f.2.length = m at HT hm
    by_cases h8 : y = d8L
    · subst h8
      rw [if_pos rfl]
      go_enter Tryd.func15, Tryd.ntmps15
      go_wp2_with (first
        | (go_at_call 31; refine HF.out.mono ?_; rintro _ _ ⟨rfl, rfl⟩)
        | (go_at_call 30; refine (HW.out _).mono ?_; rintro _ w1 ⟨v, rfl, hR, hb1⟩; obtain ⟨b, o, c, rfl, hc1, k0⟩ := HT.out _ _ hR; have HB1 := Lib.hid hb1; clear hb1 hR))
      go_ret
      exact ⟨rfl, below_trans HB.out HB1.out⟩
    · rw [if_neg h8]
      have b8 : (y == [100, 56]) = false := by rw [beq_eq_false_iff_ne]; exact h8
      by_cases h16 : y = d16L
      · subst h16
        rw [if_pos rfl]
        go_enter Tryd.func15, Tryd.ntmps15
        go_wp2_with (first
          | (go_at_call 31; refine HF.out.mono ?_; rintro _ _ ⟨rfl, rfl⟩)
          | (go_at_call 30; refine (HW.out _).mono ?_; rintro _ w1 ⟨v, rfl, hR, hb1⟩; obtain ⟨b, o, c, rfl, hc1, k0⟩ := HT.out _ _ hR; have HB1 := Lib.hid hb1; clear hb1 hR))
        go_ret
        exact ⟨rfl, below_trans HB.out HB1.out⟩
      · rw [if_neg h16]
        have b16 : (y == [100, 49, 54]) = false := by rw [beq_eq_false_iff_ne]; exact h16
        go_enter Tryd.func15, Tryd.ntmps15
        go_wp2_with (first
          | (go_at_call 31; refine HF.out.mono ?_; rintro _ _ ⟨rfl, rfl⟩)
          | (go_at_call 30; refine (HW.out _).mono ?_; rintro _ w1 ⟨v, rfl, hR, hb1⟩; obtain ⟨b, o, c, rfl, hc1, k0⟩ := HT.out _ _ hR; have HB1 := Lib.hid hb1; clear hb1 hR))
        go_ret
        exact ⟨rfl, below_trans HB.out HB1.out⟩
end Go.Proofs.YtlpbomdkcofhhaaDoor
