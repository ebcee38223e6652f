/- What the program's Reserved answers: whether a dialect keeps a word; no condition. -/
import Derived.Test.YtlindlmcojmhcaaDoorZpEq
import Derived.Test.YtlindlmcojmhcaaDoorZNames
import Derived.Test.YtlindlmcojmhcaaDoorIsLeaf
namespace Go.Proofs.YtlindlmcojmhcaaDoor
open Go.RowKit

theorem mem_take_succ' {l : List (List UInt8)} {k : Nat} {x y : List UInt8} (h : l[k]? = some y) (hx : x ∉ l.take k) (hne : x ≠ y) : x ∉ l.take (k + 1) := by
  rw [List.take_add_one, h]
  simp [hx, hne]
theorem res1 {fn : Func} {p k : Nat} {v : Value} {W : World} {tmps : Array Value} (h : fn.results = #[.cell p 46]) (hp : tmps.getD p undef = .pointer (some ⟨k, 0, none⟩)) (h0 : W.cell? ⟨k, 0, none⟩ = some v) :
    (results fn tmps).run Tryd.prog W = .ok (.agg #[v]) W := by
  simp only [Array.getD_eq_getD_getElem?] at hp
  simp only [results, h]
  simp [hp, go_sem, h0]
theorem keeping_any (sp : Option Addr) (n c : Nat) (w : World) : Calls Tryd.prog 54 #[.slice sp n c] w fun e w' => e = .returned (.agg #[.slice sp n c]) ∧ Below w.heap.size w w' := by
  go_enter Tryd.func54, Tryd.ntmps54
  go_wp2
  exact bodyPost_ret (res1 rfl rfl (by simp)) rfl ⟨rfl, (Below.refl _ _).alloc (Nat.le_refl _) _⟩
/-- a row of texts in a block of its own -/
theorem textR_block {w : World} {l : List (List UInt8)} {b : Nat} {t : TypeId} (h : w.heap[b]? = some (.cells (strs l).toArray t (0, 0))) : TextR w (.slice (some ⟨b, 0, none⟩) l.length l.length) l := by
  refine ⟨b, 0, _, l.length, rfl, Nat.le_refl _, fun _ => rfl, fun i x hx => ?_⟩
  unfold World.cell?
  simp only [h]
  have := strs_at hx
  simp [this]
set_option maxHeartbeats 1000000 in
theorem index_any (x : List UInt8) (l : List (List UInt8)) (hl : l.length ≤ 1000000) (v : Value) (w : World) (hv : TextR w v l) : Calls Tryd.prog 63 #[v, .string ⟨x.toArray⟩] w fun e w' => ∃ z : Int, e = .returned (.int .i64 z) ∧ (0 ≤ z ↔ x ∈ l) ∧ w' = w := by
  obtain ⟨b, o, sp, c, rfl, hc, h2, h3⟩ := hv
  have H2 := Lib.hid h2
  have H3 := Lib.hid h3
  clear h2 h3
  obtain ⟨n, hn⟩ : ∃ n, l.length = n := ⟨_, rfl⟩
  have HN := Lib.hid hn
  rw [hn] at hc hl ⊢
  clear hn
  go_enter Tryd.func63, Tryd.ntmps63
  go_wp2
  go_loopw [5, 8] (fun _ i wr => ∃ k : Nat, k ≤ n ∧ i = .int .i64 k ∧ wr = w ∧ Hid (x ∉ l.take k)) (fun _ i _ => n - (intOf i).toNat)
  case atStart => exact ⟨0, Nat.zero_le _, rfl, rfl, Lib.hid (by simp)⟩
  case round =>
    obtain ⟨k, hk, rfl, rfl, hx⟩ := hrel
    by_cases hlt : k < n
    · have hi : k < l.length := by rw [HN.out]; exact hlt
      obtain ⟨y, hy⟩ : ∃ y, l[k]? = some y := ⟨_, List.getElem?_eq_getElem hi⟩
      obtain rfl := H2.out (by rw [HN.out]; omega)
      have k0 := H3.out k y hy
      unfold strV at k0
      have HY := Lib.hid hy
      clear hy
      by_cases he : x = y
      · subst he
        go_wp2
        go_ret
        exact ⟨_, rfl, ⟨fun _ => List.mem_of_getElem? HY.out, fun _ => by omega⟩, rfl⟩
      · have hb : (x == y) = false := by rw [beq_eq_false_iff_ne]; exact he
        go_wp2
        go_roundw
        case rel => exact ⟨k + 1, by omega, by go_num, by first | rfl | trivial, Lib.hid (mem_take_succ' HY.out hx.out he)⟩
        case measure => simp [intOf]; omega
    · obtain rfl : k = n := by omega
      have := hx.out
      rw [List.take_of_length_le (by rw [HN.out]; exact Nat.le_refl _)] at this
      have HX := Lib.hid this
      clear this hx
      go_wp2
      go_ret
      exact ⟨-1, rfl, ⟨fun h => absurd h (by omega), fun h => absurd h HX.out⟩, rfl⟩
theorem has_any32 (x : List UInt8) (l : List (List UInt8)) (hl : l.length ≤ 1000000) (v : Value) (w : World) (hv : TextR w v l) : Calls Tryd.prog 32 #[v, .string ⟨x.toArray⟩] w fun e w' => e = .returned (.bool (decide (x ∈ l))) ∧ w' = w := by
  have HI := Lib.hid (index_any x l hl v w hv)
  clear hv
  have HC : Hid (Calls Tryd.prog 53 #[v, .string ⟨x.toArray⟩] w fun e w' => e = .returned (.bool (decide (x ∈ l))) ∧ w' = w) := Lib.hid (by
    go_enter Tryd.func53, Tryd.ntmps53
    go_wp2_with (go_at_call 63; refine HI.out.mono ?_; rintro _ w1 ⟨z, rfl, hz, rfl⟩; have HZ := Lib.hid hz; clear hz)
    go_ret
    exact ⟨congrArg (fun b => Ending.returned (.bool b)) (decide_eq_decide.2 HZ.out), rfl⟩)
  clear HI
  go_enter Tryd.func32, Tryd.ntmps32
  go_wp2_with (go_at_call 53; refine HC.out.mono ?_; rintro _ _ ⟨rfl, rfl⟩)
  go_ret
  exact ⟨rfl, rfl⟩
theorem cell_one {w : World} {k : Nat} {u : Value} {t : TypeId} (h : w.heap[k]? = some (.cells #[u] t (0, 0))) : w.cell? ⟨k, 0, none⟩ = some u ∧ w.frozen? ⟨k, 0, none⟩ = false := by
  simp [World.cell?, World.frozen?, h]
/-- the end of a function that answers a list of words: its cell is set behind one call -/
theorem fin46 {fn : Func} {p : Nat} {a : Act} {w w1 : World} {u v : Value} {t : TypeId} {l : List (List UInt8)} (h : fn.results = #[.cell p 46]) (hp : a.tmps.getD p undef = .pointer (some ⟨w.heap.size, 0, none⟩)) (hd : a.defers = [])
    (hr : w1.heap[w.heap.size]? = some (.cells #[u] t (0, 0))) (hb : Below w.heap.size w w1) (hT : TextR (w1.setCell ⟨w.heap.size, 0, none⟩ v) v l) :
    bodyPost Tryd.prog fn (fun e w' => ∃ v, e = .returned (.agg #[v]) ∧ TextR w' v l ∧ Below w.heap.size w w') .ret a (w1.setCell ⟨w.heap.size, 0, none⟩ v) := by
  have hs := set_heap hr 0 v
  have h1 := cell_one (w := w1.setCell ⟨w.heap.size, 0, none⟩ v) (u := v) (t := t) (by simpa using hs)
  exact bodyPost_ret (res1 h hp h1.1) hd ⟨v, rfl, hT, hb.setCell (p := ⟨w.heap.size, 0, none⟩) (Nat.le_refl _) _⟩
theorem set_other {w : World} {k j : Nat} {o : Obj} (h : w.heap[j]? = some o) (hne : j ≠ k) (v : Value) : (w.setCell ⟨k, 0, none⟩ v).heap[j]? = some o := by
  rw [heap_setCell_other w ⟨k, 0, none⟩ j v (fun e => hne e)]
  exact h
set_option maxHeartbeats 1000000 in
theorem list33_any (w : World) : Calls Tryd.prog 33 #[] w fun e w' => ∃ v, e = .returned (.agg #[v]) ∧ TextR w' v (wordsL intelT) ∧ Below w.heap.size w w' := by
  have HK := Lib.hid (fun sp n c w => keeping_any sp n c w)
  have hl : Obj.cells #[.string ⟨#[65]⟩, .string ⟨#[66]⟩, .string ⟨#[67]⟩, .string ⟨#[68]⟩, .string ⟨#[69]⟩, .string ⟨#[72]⟩, .string ⟨#[76]⟩, .string ⟨#[77]⟩, .string ⟨#[83, 80]⟩, .string ⟨#[80, 83, 87]⟩] 9 = Obj.cells (strs (wordsL intelT)).toArray 9 := by kernel_rfl
  have hn : (wordsL intelT).length = 10 := by kernel_rfl
  have hR := fun (W : World) b h => textR_block (w := W) (l := wordsL intelT) (b := b) (t := 9) h
  rw [hn, ← show _ = Obj.cells (strs (wordsL intelT)).toArray 9 from hl] at hR
  have HR := Lib.hid hR
  clear hR hl hn
  generalize wordsL intelT = l at HR ⊢
  go_enter Tryd.func33, Tryd.ntmps33
  go_wp2_with (go_at_call 54; refine (HK.out _ _ _ _).mono ?_; rintro _ w1 ⟨rfl, hb1⟩; have hr1 := at_below hb1 (at_old (at_new w _)); have hr2 := at_below hb1 (at_new2 w _ _); have HB1 := Lib.hid (below_new _ (below_new _ hb1)); obtain ⟨k0, k1⟩ := cell_one hr1; have HR1 := Lib.hid hr1; have HR2 := Lib.hid hr2; clear hb1 hr1 hr2)
  exact fin46 rfl rfl rfl HR1.out HB1.out (HR.out _ _ (set_other HR2.out (by omega) _))
set_option maxHeartbeats 1000000 in
theorem list34_any (w : World) : Calls Tryd.prog 34 #[] w fun e w' => ∃ v, e = .returned (.agg #[v]) ∧ TextR w' v (wordsL allT) ∧ Below w.heap.size w w' := by
  have HK := Lib.hid (fun sp n c w => keeping_any sp n c w)
  have hl : Obj.cells #[.string ⟨#[79, 82]⟩, .string ⟨#[88, 79, 82]⟩, .string ⟨#[65, 78, 68]⟩, .string ⟨#[78, 79, 84]⟩, .string ⟨#[77, 79, 68]⟩, .string ⟨#[83, 72, 76]⟩, .string ⟨#[83, 72, 82]⟩] 9 = Obj.cells (strs (wordsL allT)).toArray 9 := by kernel_rfl
  have hn : (wordsL allT).length = 7 := by kernel_rfl
  have hR := fun (W : World) b h => textR_block (w := W) (l := wordsL allT) (b := b) (t := 9) h
  rw [hn, ← show _ = Obj.cells (strs (wordsL allT)).toArray 9 from hl] at hR
  have HR := Lib.hid hR
  clear hR hl hn
  generalize wordsL allT = l at HR ⊢
  go_enter Tryd.func34, Tryd.ntmps34
  go_wp2_with (go_at_call 54; refine (HK.out _ _ _ _).mono ?_; rintro _ w1 ⟨rfl, hb1⟩; have hr1 := at_below hb1 (at_old (at_new w _)); have hr2 := at_below hb1 (at_new2 w _ _); have HB1 := Lib.hid (below_new _ (below_new _ hb1)); obtain ⟨k0, k1⟩ := cell_one hr1; have HR1 := Lib.hid hr1; have HR2 := Lib.hid hr2; clear hb1 hr1 hr2)
  exact fin46 rfl rfl rfl HR1.out HB1.out (HR.out _ _ (set_other HR2.out (by omega) _))
set_option maxHeartbeats 1000000 in
theorem list35_any (w : World) : Calls Tryd.prog 35 #[] w fun e w' => ∃ v, e = .returned (.agg #[v]) ∧ TextR w' v (wordsL zilogT) ∧ Below w.heap.size w w' := by
  have HK := Lib.hid (fun sp n c w => keeping_any sp n c w)
  have hl : Obj.cells #[.string ⟨#[65]⟩, .string ⟨#[66]⟩, .string ⟨#[67]⟩, .string ⟨#[68]⟩, .string ⟨#[69]⟩, .string ⟨#[72]⟩, .string ⟨#[76]⟩, .string ⟨#[65, 70]⟩, .string ⟨#[66, 67]⟩, .string ⟨#[68, 69]⟩, .string ⟨#[72, 76]⟩, .string ⟨#[83, 80]⟩, .string ⟨#[78, 90]⟩, .string ⟨#[90]⟩, .string ⟨#[78, 67]⟩, .string ⟨#[80, 79]⟩, .string ⟨#[80, 69]⟩, .string ⟨#[80]⟩, .string ⟨#[77]⟩] 9 = Obj.cells (strs (wordsL zilogT)).toArray 9 := by kernel_rfl
  have hn : (wordsL zilogT).length = 19 := by kernel_rfl
  have hR := fun (W : World) b h => textR_block (w := W) (l := wordsL zilogT) (b := b) (t := 9) h
  rw [hn, ← show _ = Obj.cells (strs (wordsL zilogT)).toArray 9 from hl] at hR
  have HR := Lib.hid hR
  clear hR hl hn
  generalize wordsL zilogT = l at HR ⊢
  go_enter Tryd.func35, Tryd.ntmps35
  go_wp2_with (go_at_call 54; refine (HK.out _ _ _ _).mono ?_; rintro _ w1 ⟨rfl, hb1⟩; have hr1 := at_below hb1 (at_old (at_new w _)); have hr2 := at_below hb1 (at_new2 w _ _); have HB1 := Lib.hid (below_new _ (below_new _ hb1)); obtain ⟨k0, k1⟩ := cell_one hr1; have HR1 := Lib.hid hr1; have HR2 := Lib.hid hr2; clear hb1 hr1 hr2)
  exact fin46 rfl rfl rfl HR1.out HB1.out (HR.out _ _ (set_other HR2.out (by omega) _))
set_option maxHeartbeats 1000000 in
theorem list36_any (w : World) : Calls Tryd.prog 36 #[] w fun e w' => ∃ v, e = .returned (.agg #[v]) ∧ TextR w' v (wordsL eightT) ∧ Below w.heap.size w w' := by
  have HK := Lib.hid (fun sp n c w => keeping_any sp n c w)
  have hl : Obj.cells #[.string ⟨#[65, 76]⟩, .string ⟨#[67, 76]⟩, .string ⟨#[68, 76]⟩, .string ⟨#[66, 76]⟩, .string ⟨#[65, 72]⟩, .string ⟨#[67, 72]⟩, .string ⟨#[68, 72]⟩, .string ⟨#[66, 72]⟩, .string ⟨#[65, 88]⟩, .string ⟨#[67, 88]⟩, .string ⟨#[68, 88]⟩, .string ⟨#[66, 88]⟩, .string ⟨#[83, 80]⟩, .string ⟨#[66, 80]⟩, .string ⟨#[83, 73]⟩, .string ⟨#[68, 73]⟩] 9 = Obj.cells (strs (wordsL eightT)).toArray 9 := by kernel_rfl
  have hn : (wordsL eightT).length = 16 := by kernel_rfl
  have hR := fun (W : World) b h => textR_block (w := W) (l := wordsL eightT) (b := b) (t := 9) h
  rw [hn, ← show _ = Obj.cells (strs (wordsL eightT)).toArray 9 from hl] at hR
  have HR := Lib.hid hR
  clear hR hl hn
  generalize wordsL eightT = l at HR ⊢
  go_enter Tryd.func36, Tryd.ntmps36
  go_wp2_with (go_at_call 54; refine (HK.out _ _ _ _).mono ?_; rintro _ w1 ⟨rfl, hb1⟩; have hr1 := at_below hb1 (at_old (at_new w _)); have hr2 := at_below hb1 (at_new2 w _ _); have HB1 := Lib.hid (below_new _ (below_new _ hb1)); obtain ⟨k0, k1⟩ := cell_one hr1; have HR1 := Lib.hid hr1; have HR2 := Lib.hid hr2; clear hb1 hr1 hr2)
  exact fin46 rfl rfl rfl HR1.out HB1.out (HR.out _ _ (set_other HR2.out (by omega) _))
end Go.Proofs.YtlindlmcojmhcaaDoor
