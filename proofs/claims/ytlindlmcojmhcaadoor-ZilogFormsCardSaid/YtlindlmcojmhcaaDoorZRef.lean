/- What the document's Name and Args of Zilog's mnemonics answer: of an opcode's form; no condition. -/
import Derived.Test.YtlindlmcojmhcaaDoorIsMath
import Derived.Test.YtlindlmcojmhcaaDoorZPlain
import Derived.LoopTactic
namespace Go.Proofs.YtlindlmcojmhcaaDoor
open Go.RowKit

theorem zbelow_trans {w W w1 : World} (h : Below w.heap.size w W) (hb : Below W.heap.size W w1) : Below w.heap.size w w1 := h.trans (hb.mono h.size)
/-- the cell of a form, in the block of them all -/
theorem zforms_cell {op : Nat} {s : List UInt8} (h : zformsL[op]? = some s) (w : World) : (w.alloc (.cells (zformsL.map fun s => Value.string ⟨s.toArray⟩).toArray 9)).cell? ⟨w.heap.size, op, none⟩ = some (.string ⟨s.toArray⟩) := by
  have h1 := heap_alloc_new w (.cells (zformsL.map fun s => Value.string ⟨s.toArray⟩).toArray 9)
  unfold World.cell?
  simp only [h1]
  simp [h]
theorem zwordsOf_cons {f : Fm} (h : f.1 ≠ []) : wordsOf f = f.1 :: f.2 := by unfold wordsOf; rw [if_neg h]
theorem zwordsOf_nil {f : Fm} (h : f.1 = []) : wordsOf f = [] := by unfold wordsOf; rw [if_pos h]
set_option maxHeartbeats 1000000 in
theorem zrname_any (op : Nat) (h : op < 256) (w : World) : Calls Tryd.prog 9 #[.int .u8 op] w fun e w' => e = .returned (.string ⟨(zfmL op).1.toArray⟩) ∧ Below w.heap.size w w' := by
  obtain ⟨s, hs, hsl, hw⟩ := zwords_form h
  have hc := zforms_cell hs w
  have hB := (Below.refl w.heap.size w).alloc (Nat.le_refl _) (.cells (zformsL.map fun s => Value.string ⟨s.toArray⟩).toArray 9)
  have HF := Lib.hid (zforms_any w)
  have HW := Lib.hid (fun W => words_any s hsl W)
  rw [hw] at HW
  clear hw hs hsl
  generalize zfmL op = f at HW ⊢
  generalize w.alloc (.cells (zformsL.map fun s => Value.string ⟨s.toArray⟩).toArray 9) = w0 at hc hB HF
  have HB := Lib.hid hB
  clear hB
  by_cases h0 : f.1 = []
  · rw [zwordsOf_nil h0] at HW
    go_enter Tryd.func9, Tryd.ntmps9
    go_wp2_with (first
      | (go_at_call 25; refine HF.out.mono ?_; rintro _ _ ⟨rfl, rfl⟩)
      | (go_at_call 24; refine (HW.out _).mono ?_; rintro _ w1 ⟨v, rfl, ⟨b, o, sp, c, rfl, _, _, _⟩, hb1⟩; have HB1 := Lib.hid hb1; clear hb1))
    go_ret
    exact ⟨by rw [h0]; rfl, zbelow_trans HB.out HB1.out⟩
  · rw [zwordsOf_cons h0] at HW
    go_enter Tryd.func9, Tryd.ntmps9
    go_wp2_with (first
      | (go_at_call 25; refine HF.out.mono ?_; rintro _ _ ⟨rfl, rfl⟩)
      | (go_at_call 24; refine (HW.out _).mono ?_; rintro _ w1 ⟨v, rfl, hR, hb1⟩; obtain ⟨b, o, c, rfl, hc1, k0, hTl⟩ := textR_tail hR; unfold strV at k0; have HB1 := Lib.hid hb1; have HTl := Lib.hid hTl; clear hb1 hTl hR))
    go_ret
    exact ⟨rfl, zbelow_trans HB.out HB1.out⟩
set_option maxHeartbeats 1000000 in
theorem zrargs_any (op : Nat) (h : op < 256) (w : World) : Calls Tryd.prog 12 #[.int .u8 op] w fun e w' => ∃ v, e = .returned v ∧ TextR w' v (zfmL op).2 ∧ Below w.heap.size w w' := by
  obtain ⟨s, hs, hsl, hw⟩ := zwords_form h
  have hc := zforms_cell hs w
  have hB := (Below.refl w.heap.size w).alloc (Nat.le_refl _) (.cells (zformsL.map fun s => Value.string ⟨s.toArray⟩).toArray 9)
  have HF := Lib.hid (zforms_any w)
  have HW := Lib.hid (fun W => words_any s hsl W)
  rw [hw] at HW
  clear hw hs hsl
  have hn := zfm_nil (op := op)
  generalize zfmL op = f at HW hn ⊢
  generalize w.alloc (.cells (zformsL.map fun s => Value.string ⟨s.toArray⟩).toArray 9) = w0 at hc hB HF
  have HB := Lib.hid hB
  clear hB
  by_cases h0 : f.1 = []
  · rw [zwordsOf_nil h0] at HW
    go_enter Tryd.func12, Tryd.ntmps12
    go_wp2_with (first
      | (go_at_call 25; refine HF.out.mono ?_; rintro _ _ ⟨rfl, rfl⟩)
      | (go_at_call 24; refine (HW.out _).mono ?_; rintro _ w1 ⟨v, rfl, ⟨b, o, sp, c, rfl, _, _, _⟩, hb1⟩; have HB1 := Lib.hid hb1; clear hb1))
    go_ret
    exact ⟨_, rfl, by rw [hn h0]; exact textR_nil _, zbelow_trans HB.out HB1.out⟩
  · rw [zwordsOf_cons h0] at HW
    go_enter Tryd.func12, Tryd.ntmps12
    go_wp2_with (first
      | (go_at_call 25; refine HF.out.mono ?_; rintro _ _ ⟨rfl, rfl⟩)
      | (go_at_call 24; refine (HW.out _).mono ?_; rintro _ w1 ⟨v, rfl, hR, hb1⟩; obtain ⟨b, o, c, rfl, hc1, k0, hTl⟩ := textR_tail hR; unfold strV at k0; have HB1 := Lib.hid hb1; have HTl := Lib.hid hTl; clear hb1 hTl hR))
    all_goals go_ret
    all_goals exact ⟨_, rfl, by simpa [*] using HTl.out, zbelow_trans HB.out HB1.out⟩
end Go.Proofs.YtlindlmcojmhcaaDoor
