/- What the reader's within and ahead of the program do when they are called. What the reader's levels of the program do when they are called. What the reader's first and closed of the program do when they are called. What the program's Parse and All of expressions do when they are called, on the tokens of a right expression. What the law's of and alive do when they are called: the chapter's examples come out. -/
import Derived.Test.YtaoeipbofhkkcaaGreatDoorPrRow
import Derived.Test.YtaoeipbofhkkcaaGreatDoorPrRgt
import Derived.Test.YtaoeipbofhkkcaaGreatDoorPrSho
import Derived.Test.YtaoeipbofhkkcaaGreatDoorExLen
import Derived.Test.YtaoeipbofhkkcaaGreatDoorTokAlive
namespace Go.Proofs.YtaoeipbofhkkcaaGreatDoor
open Go.RowKit Go.Proofs.NumMath

/-- function K reads so -/
def Runs (K o : Nat) (l : List Tok) (e : RE) (r : List Tok) : Prop := ∀ (w0 : World) (rb : Nat) (lv : Value) (L : List Tok) (i : Nat) (w : World), Env w0 rb lv L → Below w0.heap.size w0 w → L.drop i = l → i ≤ L.length → o ≤ 48 → RS rb lv i (48 - o) w →
  Calls Tryz.prog K #[.pointer (some ⟨rb, 0, none⟩)] w (Post rb lv L e r (48 - o) i w)
abbrev zero25 : Obj := Obj.cells #[Value.string ⟨#[]⟩, Value.int .u16 0, Value.string ⟨#[]⟩, Value.slice none 0 0] 25
/-- what was read is handed on -/
theorem post_ret {rb i0 i op : Nat} {lv : Value} {L r : List Tok} {e : RE} {w w1 wX : World} {a b c d : Value} (hrb : rb < w.heap.size) (hX : w.heap.size + 1 ≤ wX.heap.size) (hv : ExP (fun k => wX.heap.size ≤ k) w1 (.agg #[a, b, c, d]) (toEx e)) (hd : L.drop i = r) (hi0 : i0 ≤ i) (hi : i ≤ L.length) (hR : RS rb lv i op w1) (hA : Ap rb w w1) :
    Post rb lv L e r op i0 w (.returned (.tuple #[.agg #[a, b, c, d], .int .i64 0])) ((((w1.setCell ⟨w.heap.size, 0, none⟩ a).setCell ⟨w.heap.size, 1, none⟩ b).setCell ⟨w.heap.size, 2, none⟩ c).setCell ⟨w.heap.size, 3, none⟩ d) := by
  refine ⟨_, i, rfl, ExP.keep (four_stand w1 w.heap.size a b c d fun k hk => ?_) (fun k _ _ hk _ => ?_) hv, hd, hi0, hi, (four_other (show rb ≠ w.heap.size by omega) a b c d).trans hR, hA.four (Nat.le_refl _) a b c d⟩
  · have : wX.heap.size ≤ k := hk
    omega
  · have : wX.heap.size ≤ k := hk
    show w.heap.size ≤ k
    omega
set_option maxHeartbeats 4000000 in
set_option maxRecDepth 100000 in
theorem within95_any (o : Nat) (l : List Tok) (e : RE) (r : List Tok) (hp : Runs 95 o l e r) (w0 : World) (rb : Nat) (lv : Value) (L : List Tok) (i : Nat) (w : World) (hE : Env w0 rb lv L) (hB : Below w0.heap.size w0 w) (hd : L.drop i = l) (hi : i ≤ L.length) (ho : o + 1 ≤ 48) (hR : RS rb lv i (48 - (o + 1)) w) :
    Calls Tryz.prog 121 #[.pointer (some ⟨rb, 0, none⟩), .func (.func 95) #[.pointer (some ⟨rb, 0, none⟩)] #[]] w (Post rb lv L e r (48 - (o + 1)) i w) := by
  have hrb : rb < w.heap.size := (Array.getElem?_eq_some_iff.1 hR).1
  obtain ⟨q, hq⟩ : ∃ q, 48 - (o + 1) = q := ⟨_, rfl⟩
  have hq1 : 48 - o = q + 1 := by omega
  rw [hq] at hR ⊢
  have hp1 : ∀ w, Below w0.heap.size w0 w → RS rb lv i (q + 1) w → Calls Tryz.prog 95 #[.pointer (some ⟨rb, 0, none⟩)] w (Post rb lv L e r (q + 1) i w) := fun w h1 h2 => by
    have := hp w0 rb lv L i w hE h1 hd hi (by omega)
    rw [hq1] at this
    exact this h2
  have q48 : ((q : Int) == 48) = false := by rw [beq_eq_false_iff_ne]; omega
  have qu : IntKind.i64.wrap ((q : Int) + 1) = (q : Int) + 1 := IntWalk.i64_in _ (by omega)
  have qd1 : IntKind.i64.wrap ((q : Int) + 1 - 1) = (q : Int) := by rw [Int.add_sub_cancel]; exact IntWalk.i64_in _ (by omega)
  have qd2 : IntKind.i64.wrap (q : Int) = (q : Int) := IntWalk.i64_in _ (by omega)
  have hX := box_below w zero25
  obtain ⟨x0, x1, x2⟩ := cells_three (below_heap hX hR)
  have x3 := Lib.frozen_of_heap (below_heap hX hR) 2
  have hQ : RS rb lv i (q + 1) (w.setCell ⟨rb, 2, none⟩ (.int .i64 ((q : Int) + 1))) := set_heap hR 2 _
  have hsz : (w.setCell ⟨rb, 2, none⟩ (.int .i64 ((q : Int) + 1))).heap.size = w.heap.size := by simp [World.setCell]
  have hBQ : Below w0.heap.size w0 (w.setCell ⟨rb, 2, none⟩ (.int .i64 ((q : Int) + 1))) := hB.setCell (p := ⟨rb, 2, none⟩) hE.b _
  have hAQ : Ap rb w (w.setCell ⟨rb, 2, none⟩ (.int .i64 ((q : Int) + 1))) := Ap.set w 2 _
  have hXQ := box_below (w.setCell ⟨rb, 2, none⟩ (.int .i64 ((q : Int) + 1))) zero25
  have hbQ := heap_alloc_new (w.setCell ⟨rb, 2, none⟩ (.int .i64 ((q : Int) + 1))) zero25
  rw [hsz] at hbQ
  have HP := Lib.hid (hp1 _ (hBQ.trans (hXQ.mono hBQ.size)) (below_heap hXQ hQ))
  have HAQ := Lib.hid (hAQ.trans (Ap.of hXQ))
  have HbQ := Lib.hid hbQ
  have HsQ := Lib.hid (show ((w.setCell ⟨rb, 2, none⟩ (.int .i64 ((q : Int) + 1))).alloc zero25).heap.size = w.heap.size + 1 by simp [hsz])
  clear hp hp1 hB hE hX hd hq hq1 hR hQ hsz hBQ hAQ hXQ hbQ
  go_enter Tryz.func121, Tryz.ntmps121
  go_upto_region 5 with (first
    | (go_at_call 95; refine HP.out.mono ?_; rintro _ w1 ⟨v, i1, rfl, hv, hd1, hii, hi1, hR1, hA1⟩
       have HV := Lib.hid hv
       obtain ⟨X, hX⟩ : ∃ X, toEx e = X := ⟨_, rfl⟩
       rw [hX] at hv
       obtain ⟨eo, en, es, el⟩ := X
       obtain ⟨hn1, b1, o1, sp1, c1, rfl, hsp1, hll1⟩ := hv
       obtain ⟨m, hm⟩ : ∃ m, el.length = m := ⟨_, rfl⟩
       rw [hm] at HV ⊢
       have HG := Lib.hid (hA1.heap (show w.heap.size ≠ rb by omega) HbQ.out)
       have HA1 := Lib.hid hA1
       have HD1 := Lib.hid hd1
       have HR1 := Lib.hid hR1
       clear hll1 hsp1 hX hm hR1 hA1 hd1))
  have hBe := box_below w1 (Obj.cells #[.string ⟨eo.toArray⟩, .int .u16 (en : Nat), .string ⟨es.toArray⟩, .slice sp1 m c1] 25)
  have hEb := heap_alloc_new w1 (Obj.cells #[.string ⟨eo.toArray⟩, .int .u16 (en : Nat), .string ⟨es.toArray⟩, .slice sp1 m c1] 25)
  have hR2 := below_heap hBe HR1.out
  have hG2 := below_heap hBe HG.out
  have hV2 := ExP.keep (Q := fun k => w.heap.size + 1 ≤ k) (Stand.below hBe) (fun k _ _ hk _ => by have : ((w.setCell ⟨rb, 2, none⟩ (.int .i64 ((q : Int) + 1))).alloc zero25).heap.size ≤ k := hk; rw [HsQ.out] at this; exact this) HV.out
  have hA2 := HAQ.out.trans (HA1.out.trans (Ap.of hBe))
  have hs1 : w.heap.size + 1 ≤ w1.heap.size := by have := HA1.out.size; rw [HsQ.out] at this; exact this
  obtain ⟨we, hwe⟩ : ∃ we, w1.heap.size = we := ⟨_, rfl⟩
  rw [hwe] at hEb hs1 ⊢
  generalize w1.alloc (Obj.cells #[.string ⟨eo.toArray⟩, .int .u16 (en : Nat), .string ⟨es.toArray⟩, .slice sp1 m c1] 25) = WA at hEb hR2 hG2 hV2 hA2 ⊢
  obtain ⟨r0, r1, r2⟩ := cells_three hR2
  have r3 := Lib.frozen_of_heap hR2 2
  have hE3 := (set_other (W := WA) 2 (.int .i64 (q : Int)) (show we ≠ rb by omega)).trans hEb
  have hG3 := (set_other (W := WA) 2 (.int .i64 (q : Int)) (show w.heap.size ≠ rb by omega)).trans hG2
  have hR3 := set_heap hR2 2 (.int .i64 (q : Int))
  have hV3 := ExP.keep (Q := fun k => w.heap.size + 1 ≤ k) (set_stand WA rb 2 (.int .i64 (q : Int)) fun k hk => by omega) (fun _ _ _ h _ => h) hV2
  have hA3 := hA2.trans (Ap.set WA 2 (.int .i64 (q : Int)))
  obtain ⟨e0, e1, e2, e3⟩ := cells_box hE3
  obtain ⟨g0, g1, g2, g3⟩ := cells_box hG3
  have f0 := Lib.frozen_of_heap hG3 0
  have f1 := Lib.frozen_of_heap hG3 1
  have f2 := Lib.frozen_of_heap hG3 2
  have f3 := Lib.frozen_of_heap hG3 3
  have HG3 := Lib.hid hG3
  have HR3 := Lib.hid hR3
  have HV3 := Lib.hid hV3
  have HA3 := Lib.hid hA3
  have HZ := Lib.hid HsQ.out
  clear hBe hR2 hG2 hV2 hA2 hEb hE3 hG3 hR3 hV3 hA3
  go_wp2
  refine finE rfl rfl rfl (four_set HG3.out _ _ _ _) rfl ?_
  exact post_ret (wX := w.alloc zero25) hrb (by simp) (ExP.keep (fun _ _ _ _ h => h) (fun k _ _ hk _ => by have : w.heap.size + 1 ≤ k := hk; show (w.alloc zero25).heap.size ≤ k; simpa using this) HV3.out) HD1.out hii hi1 HR3.out HA3.out
set_option maxHeartbeats 4000000 in
set_option maxRecDepth 100000 in
theorem within132_any (o : Nat) (l : List Tok) (e : RE) (r : List Tok) (hp : Runs 132 o l e r) (w0 : World) (rb : Nat) (lv : Value) (L : List Tok) (i : Nat) (w : World) (hE : Env w0 rb lv L) (hB : Below w0.heap.size w0 w) (hd : L.drop i = l) (hi : i ≤ L.length) (ho : o + 1 ≤ 48) (hR : RS rb lv i (48 - (o + 1)) w) :
    Calls Tryz.prog 121 #[.pointer (some ⟨rb, 0, none⟩), .func (.func 132) #[.pointer (some ⟨rb, 0, none⟩)] #[]] w (Post rb lv L e r (48 - (o + 1)) i w) := by
  have hrb : rb < w.heap.size := (Array.getElem?_eq_some_iff.1 hR).1
  obtain ⟨q, hq⟩ : ∃ q, 48 - (o + 1) = q := ⟨_, rfl⟩
  have hq1 : 48 - o = q + 1 := by omega
  rw [hq] at hR ⊢
  have hp1 : ∀ w, Below w0.heap.size w0 w → RS rb lv i (q + 1) w → Calls Tryz.prog 132 #[.pointer (some ⟨rb, 0, none⟩)] w (Post rb lv L e r (q + 1) i w) := fun w h1 h2 => by
    have := hp w0 rb lv L i w hE h1 hd hi (by omega)
    rw [hq1] at this
    exact this h2
  have q48 : ((q : Int) == 48) = false := by rw [beq_eq_false_iff_ne]; omega
  have qu : IntKind.i64.wrap ((q : Int) + 1) = (q : Int) + 1 := IntWalk.i64_in _ (by omega)
  have qd1 : IntKind.i64.wrap ((q : Int) + 1 - 1) = (q : Int) := by rw [Int.add_sub_cancel]; exact IntWalk.i64_in _ (by omega)
  have qd2 : IntKind.i64.wrap (q : Int) = (q : Int) := IntWalk.i64_in _ (by omega)
  have hX := box_below w zero25
  obtain ⟨x0, x1, x2⟩ := cells_three (below_heap hX hR)
  have x3 := Lib.frozen_of_heap (below_heap hX hR) 2
  have hQ : RS rb lv i (q + 1) (w.setCell ⟨rb, 2, none⟩ (.int .i64 ((q : Int) + 1))) := set_heap hR 2 _
  have hsz : (w.setCell ⟨rb, 2, none⟩ (.int .i64 ((q : Int) + 1))).heap.size = w.heap.size := by simp [World.setCell]
  have hBQ : Below w0.heap.size w0 (w.setCell ⟨rb, 2, none⟩ (.int .i64 ((q : Int) + 1))) := hB.setCell (p := ⟨rb, 2, none⟩) hE.b _
  have hAQ : Ap rb w (w.setCell ⟨rb, 2, none⟩ (.int .i64 ((q : Int) + 1))) := Ap.set w 2 _
  have hXQ := box_below (w.setCell ⟨rb, 2, none⟩ (.int .i64 ((q : Int) + 1))) zero25
  have hbQ := heap_alloc_new (w.setCell ⟨rb, 2, none⟩ (.int .i64 ((q : Int) + 1))) zero25
  rw [hsz] at hbQ
  have HP := Lib.hid (hp1 _ (hBQ.trans (hXQ.mono hBQ.size)) (below_heap hXQ hQ))
  have HAQ := Lib.hid (hAQ.trans (Ap.of hXQ))
  have HbQ := Lib.hid hbQ
  have HsQ := Lib.hid (show ((w.setCell ⟨rb, 2, none⟩ (.int .i64 ((q : Int) + 1))).alloc zero25).heap.size = w.heap.size + 1 by simp [hsz])
  clear hp hp1 hB hE hX hd hq hq1 hR hQ hsz hBQ hAQ hXQ hbQ
  go_enter Tryz.func121, Tryz.ntmps121
  go_upto_region 5 with (first
    | (go_at_call 132; refine HP.out.mono ?_; rintro _ w1 ⟨v, i1, rfl, hv, hd1, hii, hi1, hR1, hA1⟩
       have HV := Lib.hid hv
       obtain ⟨X, hX⟩ : ∃ X, toEx e = X := ⟨_, rfl⟩
       rw [hX] at hv
       obtain ⟨eo, en, es, el⟩ := X
       obtain ⟨hn1, b1, o1, sp1, c1, rfl, hsp1, hll1⟩ := hv
       obtain ⟨m, hm⟩ : ∃ m, el.length = m := ⟨_, rfl⟩
       rw [hm] at HV ⊢
       have HG := Lib.hid (hA1.heap (show w.heap.size ≠ rb by omega) HbQ.out)
       have HA1 := Lib.hid hA1
       have HD1 := Lib.hid hd1
       have HR1 := Lib.hid hR1
       clear hll1 hsp1 hX hm hR1 hA1 hd1))
  have hBe := box_below w1 (Obj.cells #[.string ⟨eo.toArray⟩, .int .u16 (en : Nat), .string ⟨es.toArray⟩, .slice sp1 m c1] 25)
  have hEb := heap_alloc_new w1 (Obj.cells #[.string ⟨eo.toArray⟩, .int .u16 (en : Nat), .string ⟨es.toArray⟩, .slice sp1 m c1] 25)
  have hR2 := below_heap hBe HR1.out
  have hG2 := below_heap hBe HG.out
  have hV2 := ExP.keep (Q := fun k => w.heap.size + 1 ≤ k) (Stand.below hBe) (fun k _ _ hk _ => by have : ((w.setCell ⟨rb, 2, none⟩ (.int .i64 ((q : Int) + 1))).alloc zero25).heap.size ≤ k := hk; rw [HsQ.out] at this; exact this) HV.out
  have hA2 := HAQ.out.trans (HA1.out.trans (Ap.of hBe))
  have hs1 : w.heap.size + 1 ≤ w1.heap.size := by have := HA1.out.size; rw [HsQ.out] at this; exact this
  obtain ⟨we, hwe⟩ : ∃ we, w1.heap.size = we := ⟨_, rfl⟩
  rw [hwe] at hEb hs1 ⊢
  generalize w1.alloc (Obj.cells #[.string ⟨eo.toArray⟩, .int .u16 (en : Nat), .string ⟨es.toArray⟩, .slice sp1 m c1] 25) = WA at hEb hR2 hG2 hV2 hA2 ⊢
  obtain ⟨r0, r1, r2⟩ := cells_three hR2
  have r3 := Lib.frozen_of_heap hR2 2
  have hE3 := (set_other (W := WA) 2 (.int .i64 (q : Int)) (show we ≠ rb by omega)).trans hEb
  have hG3 := (set_other (W := WA) 2 (.int .i64 (q : Int)) (show w.heap.size ≠ rb by omega)).trans hG2
  have hR3 := set_heap hR2 2 (.int .i64 (q : Int))
  have hV3 := ExP.keep (Q := fun k => w.heap.size + 1 ≤ k) (set_stand WA rb 2 (.int .i64 (q : Int)) fun k hk => by omega) (fun _ _ _ h _ => h) hV2
  have hA3 := hA2.trans (Ap.set WA 2 (.int .i64 (q : Int)))
  obtain ⟨e0, e1, e2, e3⟩ := cells_box hE3
  obtain ⟨g0, g1, g2, g3⟩ := cells_box hG3
  have f0 := Lib.frozen_of_heap hG3 0
  have f1 := Lib.frozen_of_heap hG3 1
  have f2 := Lib.frozen_of_heap hG3 2
  have f3 := Lib.frozen_of_heap hG3 3
  have HG3 := Lib.hid hG3
  have HR3 := Lib.hid hR3
  have HV3 := Lib.hid hV3
  have HA3 := Lib.hid hA3
  have HZ := Lib.hid HsQ.out
  clear hBe hR2 hG2 hV2 hA2 hEb hE3 hG3 hR3 hV3 hA3
  go_wp2
  refine finE rfl rfl rfl (four_set HG3.out _ _ _ _) rfl ?_
  exact post_ret (wX := w.alloc zero25) hrb (by simp) (ExP.keep (fun _ _ _ _ h => h) (fun k _ _ hk _ => by have : w.heap.size + 1 ≤ k := hk; show (w.alloc zero25).heap.size ≤ k; simpa using this) HV3.out) HD1.out hii hi1 HR3.out HA3.out
set_option maxHeartbeats 4000000 in
set_option maxRecDepth 100000 in
theorem within138_any (o : Nat) (l : List Tok) (e : RE) (r : List Tok) (hp : Runs 138 o l e r) (w0 : World) (rb : Nat) (lv : Value) (L : List Tok) (i : Nat) (w : World) (hE : Env w0 rb lv L) (hB : Below w0.heap.size w0 w) (hd : L.drop i = l) (hi : i ≤ L.length) (ho : o + 1 ≤ 48) (hR : RS rb lv i (48 - (o + 1)) w) :
    Calls Tryz.prog 121 #[.pointer (some ⟨rb, 0, none⟩), .func (.func 138) #[.pointer (some ⟨rb, 0, none⟩)] #[]] w (Post rb lv L e r (48 - (o + 1)) i w) := by
  have hrb : rb < w.heap.size := (Array.getElem?_eq_some_iff.1 hR).1
  obtain ⟨q, hq⟩ : ∃ q, 48 - (o + 1) = q := ⟨_, rfl⟩
  have hq1 : 48 - o = q + 1 := by omega
  rw [hq] at hR ⊢
  have hp1 : ∀ w, Below w0.heap.size w0 w → RS rb lv i (q + 1) w → Calls Tryz.prog 138 #[.pointer (some ⟨rb, 0, none⟩)] w (Post rb lv L e r (q + 1) i w) := fun w h1 h2 => by
    have := hp w0 rb lv L i w hE h1 hd hi (by omega)
    rw [hq1] at this
    exact this h2
  have q48 : ((q : Int) == 48) = false := by rw [beq_eq_false_iff_ne]; omega
  have qu : IntKind.i64.wrap ((q : Int) + 1) = (q : Int) + 1 := IntWalk.i64_in _ (by omega)
  have qd1 : IntKind.i64.wrap ((q : Int) + 1 - 1) = (q : Int) := by rw [Int.add_sub_cancel]; exact IntWalk.i64_in _ (by omega)
  have qd2 : IntKind.i64.wrap (q : Int) = (q : Int) := IntWalk.i64_in _ (by omega)
  have hX := box_below w zero25
  obtain ⟨x0, x1, x2⟩ := cells_three (below_heap hX hR)
  have x3 := Lib.frozen_of_heap (below_heap hX hR) 2
  have hQ : RS rb lv i (q + 1) (w.setCell ⟨rb, 2, none⟩ (.int .i64 ((q : Int) + 1))) := set_heap hR 2 _
  have hsz : (w.setCell ⟨rb, 2, none⟩ (.int .i64 ((q : Int) + 1))).heap.size = w.heap.size := by simp [World.setCell]
  have hBQ : Below w0.heap.size w0 (w.setCell ⟨rb, 2, none⟩ (.int .i64 ((q : Int) + 1))) := hB.setCell (p := ⟨rb, 2, none⟩) hE.b _
  have hAQ : Ap rb w (w.setCell ⟨rb, 2, none⟩ (.int .i64 ((q : Int) + 1))) := Ap.set w 2 _
  have hXQ := box_below (w.setCell ⟨rb, 2, none⟩ (.int .i64 ((q : Int) + 1))) zero25
  have hbQ := heap_alloc_new (w.setCell ⟨rb, 2, none⟩ (.int .i64 ((q : Int) + 1))) zero25
  rw [hsz] at hbQ
  have HP := Lib.hid (hp1 _ (hBQ.trans (hXQ.mono hBQ.size)) (below_heap hXQ hQ))
  have HAQ := Lib.hid (hAQ.trans (Ap.of hXQ))
  have HbQ := Lib.hid hbQ
  have HsQ := Lib.hid (show ((w.setCell ⟨rb, 2, none⟩ (.int .i64 ((q : Int) + 1))).alloc zero25).heap.size = w.heap.size + 1 by simp [hsz])
  clear hp hp1 hB hE hX hd hq hq1 hR hQ hsz hBQ hAQ hXQ hbQ
  go_enter Tryz.func121, Tryz.ntmps121
  go_upto_region 5 with (first
    | (go_at_call 138; refine HP.out.mono ?_; rintro _ w1 ⟨v, i1, rfl, hv, hd1, hii, hi1, hR1, hA1⟩
       have HV := Lib.hid hv
       obtain ⟨X, hX⟩ : ∃ X, toEx e = X := ⟨_, rfl⟩
       rw [hX] at hv
       obtain ⟨eo, en, es, el⟩ := X
       obtain ⟨hn1, b1, o1, sp1, c1, rfl, hsp1, hll1⟩ := hv
       obtain ⟨m, hm⟩ : ∃ m, el.length = m := ⟨_, rfl⟩
       rw [hm] at HV ⊢
       have HG := Lib.hid (hA1.heap (show w.heap.size ≠ rb by omega) HbQ.out)
       have HA1 := Lib.hid hA1
       have HD1 := Lib.hid hd1
       have HR1 := Lib.hid hR1
       clear hll1 hsp1 hX hm hR1 hA1 hd1))
  have hBe := box_below w1 (Obj.cells #[.string ⟨eo.toArray⟩, .int .u16 (en : Nat), .string ⟨es.toArray⟩, .slice sp1 m c1] 25)
  have hEb := heap_alloc_new w1 (Obj.cells #[.string ⟨eo.toArray⟩, .int .u16 (en : Nat), .string ⟨es.toArray⟩, .slice sp1 m c1] 25)
  have hR2 := below_heap hBe HR1.out
  have hG2 := below_heap hBe HG.out
  have hV2 := ExP.keep (Q := fun k => w.heap.size + 1 ≤ k) (Stand.below hBe) (fun k _ _ hk _ => by have : ((w.setCell ⟨rb, 2, none⟩ (.int .i64 ((q : Int) + 1))).alloc zero25).heap.size ≤ k := hk; rw [HsQ.out] at this; exact this) HV.out
  have hA2 := HAQ.out.trans (HA1.out.trans (Ap.of hBe))
  have hs1 : w.heap.size + 1 ≤ w1.heap.size := by have := HA1.out.size; rw [HsQ.out] at this; exact this
  obtain ⟨we, hwe⟩ : ∃ we, w1.heap.size = we := ⟨_, rfl⟩
  rw [hwe] at hEb hs1 ⊢
  generalize w1.alloc (Obj.cells #[.string ⟨eo.toArray⟩, .int .u16 (en : Nat), .string ⟨es.toArray⟩, .slice sp1 m c1] 25) = WA at hEb hR2 hG2 hV2 hA2 ⊢
  obtain ⟨r0, r1, r2⟩ := cells_three hR2
  have r3 := Lib.frozen_of_heap hR2 2
  have hE3 := (set_other (W := WA) 2 (.int .i64 (q : Int)) (show we ≠ rb by omega)).trans hEb
  have hG3 := (set_other (W := WA) 2 (.int .i64 (q : Int)) (show w.heap.size ≠ rb by omega)).trans hG2
  have hR3 := set_heap hR2 2 (.int .i64 (q : Int))
  have hV3 := ExP.keep (Q := fun k => w.heap.size + 1 ≤ k) (set_stand WA rb 2 (.int .i64 (q : Int)) fun k hk => by omega) (fun _ _ _ h _ => h) hV2
  have hA3 := hA2.trans (Ap.set WA 2 (.int .i64 (q : Int)))
  obtain ⟨e0, e1, e2, e3⟩ := cells_box hE3
  obtain ⟨g0, g1, g2, g3⟩ := cells_box hG3
  have f0 := Lib.frozen_of_heap hG3 0
  have f1 := Lib.frozen_of_heap hG3 1
  have f2 := Lib.frozen_of_heap hG3 2
  have f3 := Lib.frozen_of_heap hG3 3
  have HG3 := Lib.hid hG3
  have HR3 := Lib.hid hR3
  have HV3 := Lib.hid hV3
  have HA3 := Lib.hid hA3
  have HZ := Lib.hid HsQ.out
  clear hBe hR2 hG2 hV2 hA2 hEb hE3 hG3 hR3 hV3 hA3
  go_wp2
  refine finE rfl rfl rfl (four_set HG3.out _ _ _ _) rfl ?_
  exact post_ret (wX := w.alloc zero25) hrb (by simp) (ExP.keep (fun _ _ _ _ h => h) (fun k _ _ hk _ => by have : w.heap.size + 1 ≤ k := hk; show (w.alloc zero25).heap.size ≤ k; simpa using this) HV3.out) HD1.out hii hi1 HR3.out HA3.out
set_option maxHeartbeats 4000000 in
set_option maxRecDepth 100000 in
theorem ahead95_any (ox : O1) (o : Nat) (l : List Tok) (e : RE) (r : List Tok) (hp : Runs 95 o l e r) (w0 : World) (rb : Nat) (lv : Value) (L : List Tok) (i : Nat) (w : World) (hE : Env w0 rb lv L) (hB : Below w0.heap.size w0 w) (hd : L.drop i = l) (hi : i ≤ L.length) (ho : o + 1 ≤ 48) (hR : RS rb lv i (48 - (o + 1)) w) :
    Calls Tryz.prog 107 #[.pointer (some ⟨rb, 0, none⟩), .string ⟨(txt1 ox).toArray⟩, .func (.func 95) #[.pointer (some ⟨rb, 0, none⟩)] #[]] w (Post rb lv L (.un ox e) r (48 - (o + 1)) i w) := by
  have hrb : rb < w.heap.size := (Array.getElem?_eq_some_iff.1 hR).1
  have hX := box_below w zero25
  have HbX := Lib.hid (heap_alloc_new w zero25)
  have HP := Lib.hid (within95_any o l e r hp w0 rb lv L i (w.alloc zero25) hE (hB.trans (hX.mono hB.size)) hd hi ho (below_heap hX hR))
  have HX := Lib.hid hX
  obtain ⟨T, hT⟩ : ∃ T, txt1 ox = T := ⟨_, rfl⟩
  have HT := Lib.hid hT
  rw [hT]
  clear hp hB hE hX hd hR hT
  go_enter Tryz.func107, Tryz.ntmps107
  go_upto_region 2 with (first
    | (go_at_call 121; refine HP.out.mono ?_; rintro _ w1 ⟨v, i1, rfl, hv, hd1, hii, hi1, hR1, hA1⟩
       have HV := Lib.hid hv
       obtain ⟨X, hX⟩ : ∃ X, toEx e = X := ⟨_, rfl⟩
       rw [hX] at hv
       obtain ⟨eo, en, es, el⟩ := X
       obtain ⟨hn1, b1, o1, sp1, c1, rfl, hsp1, hll1⟩ := hv
       obtain ⟨m, hm⟩ : ∃ m, el.length = m := ⟨_, rfl⟩
       rw [hm] at HV ⊢
       have HG := Lib.hid (hA1.heap (show w.heap.size ≠ rb by omega) HbX.out)
       have HA1 := Lib.hid hA1
       have HD1 := Lib.hid hd1
       have HR1 := Lib.hid hR1
       clear hll1 hsp1 hX hm hR1 hA1 hd1))
  have hBe := box_below w1 (Obj.cells #[.string ⟨eo.toArray⟩, .int .u16 (en : Nat), .string ⟨es.toArray⟩, .slice sp1 m c1] 25)
  have hEb := heap_alloc_new w1 (Obj.cells #[.string ⟨eo.toArray⟩, .int .u16 (en : Nat), .string ⟨es.toArray⟩, .slice sp1 m c1] 25)
  have hR2 := below_heap hBe HR1.out
  have hG2 := below_heap hBe HG.out
  have hV2 := ExP.keep (Q := fun k => w.heap.size + 1 ≤ k) (Stand.below hBe) (fun k _ _ hk _ => by have : (w.alloc zero25).heap.size ≤ k := hk; simpa using this) HV.out
  have hA2 := (Ap.of HX.out).trans (HA1.out.trans (Ap.of hBe))
  have hs1 : w.heap.size + 1 ≤ w1.heap.size := by have := HA1.out.size; simpa using this
  have hsA : (w1.alloc (Obj.cells #[.string ⟨eo.toArray⟩, .int .u16 (en : Nat), .string ⟨es.toArray⟩, .slice sp1 m c1] 25)).heap.size = w1.heap.size + 1 := by simp
  obtain ⟨we, hwe⟩ : ∃ we, w1.heap.size = we := ⟨_, rfl⟩
  rw [hwe] at hEb hs1 hsA ⊢
  generalize w1.alloc (Obj.cells #[.string ⟨eo.toArray⟩, .int .u16 (en : Nat), .string ⟨es.toArray⟩, .slice sp1 m c1] 25) = WA at hEb hR2 hG2 hV2 hA2 hsA ⊢
  obtain ⟨e0, e1, e2, e3⟩ := cells_box hEb
  have hBb := box_below WA (Obj.cells #[.string ⟨eo.toArray⟩, .int .u16 (en : Nat), .string ⟨es.toArray⟩, .slice sp1 m c1] 25)
  have hAb := heap_alloc_new WA (Obj.cells #[.string ⟨eo.toArray⟩, .int .u16 (en : Nat), .string ⟨es.toArray⟩, .slice sp1 m c1] 25)
  have hG3 := below_heap hBb hG2
  obtain ⟨g0, g1, g2, g3⟩ := cells_box hG3
  have f0 := Lib.frozen_of_heap hG3 0
  have f1 := Lib.frozen_of_heap hG3 1
  have f2 := Lib.frozen_of_heap hG3 2
  have f3 := Lib.frozen_of_heap hG3 3
  have hV3 := ExP.keep (Q := fun k => w.heap.size + 1 ≤ k) (Stand.below hBb) (fun _ _ _ h _ => h) hV2
  have hC := hV3.cells (b := WA.heap.size) (o := 0) (cells_box hAb).1 (cells_box hAb).2.1 (cells_box hAb).2.2.1 (cells_box hAb).2.2.2
  have HV3 : Hid (ExP (fun k => w.heap.size + 1 ≤ k) (WA.alloc (Obj.cells #[.string ⟨eo.toArray⟩, .int .u16 (en : Nat), .string ⟨es.toArray⟩, .slice sp1 m c1] 25)) (.agg #[.string ⟨T.toArray⟩, .int .u16 0, .string ⟨#[]⟩, .slice (some ⟨WA.heap.size, 0, none⟩) 1 1]) (toEx (.un ox e))) := by
    refine Lib.hid ⟨by omega, WA.heap.size, 0, some ⟨WA.heap.size, 0, none⟩, 1, by rw [HT.out]; rfl, fun _ => ⟨rfl, by rw [hsA]; omega⟩, ?_⟩
    simp only [ListP, and_true]
    exact hC
  have HG3 := Lib.hid hG3
  have HR3 := Lib.hid (below_heap hBb hR2)
  have HA3 := Lib.hid (hA2.trans (Ap.of hBb))
  clear hBe hR2 hG2 hV2 hA2 hEb hG3 hV3 hBb hAb hC hsA
  go_wp2
  refine finE rfl rfl rfl (four_set HG3.out _ _ _ _) rfl ?_
  exact post_ret (wX := w.alloc zero25) hrb (by simp) (ExP.keep (fun _ _ _ _ h => h) (fun k _ _ hk _ => by have : w.heap.size + 1 ≤ k := hk; show (w.alloc zero25).heap.size ≤ k; simpa using this) HV3.out) HD1.out hii hi1 HR3.out HA3.out
set_option maxHeartbeats 4000000 in
set_option maxRecDepth 100000 in
theorem ahead132_any (ox : O1) (o : Nat) (l : List Tok) (e : RE) (r : List Tok) (hp : Runs 132 o l e r) (w0 : World) (rb : Nat) (lv : Value) (L : List Tok) (i : Nat) (w : World) (hE : Env w0 rb lv L) (hB : Below w0.heap.size w0 w) (hd : L.drop i = l) (hi : i ≤ L.length) (ho : o + 1 ≤ 48) (hR : RS rb lv i (48 - (o + 1)) w) :
    Calls Tryz.prog 107 #[.pointer (some ⟨rb, 0, none⟩), .string ⟨(txt1 ox).toArray⟩, .func (.func 132) #[.pointer (some ⟨rb, 0, none⟩)] #[]] w (Post rb lv L (.un ox e) r (48 - (o + 1)) i w) := by
  have hrb : rb < w.heap.size := (Array.getElem?_eq_some_iff.1 hR).1
  have hX := box_below w zero25
  have HbX := Lib.hid (heap_alloc_new w zero25)
  have HP := Lib.hid (within132_any o l e r hp w0 rb lv L i (w.alloc zero25) hE (hB.trans (hX.mono hB.size)) hd hi ho (below_heap hX hR))
  have HX := Lib.hid hX
  obtain ⟨T, hT⟩ : ∃ T, txt1 ox = T := ⟨_, rfl⟩
  have HT := Lib.hid hT
  rw [hT]
  clear hp hB hE hX hd hR hT
  go_enter Tryz.func107, Tryz.ntmps107
  go_upto_region 2 with (first
    | (go_at_call 121; refine HP.out.mono ?_; rintro _ w1 ⟨v, i1, rfl, hv, hd1, hii, hi1, hR1, hA1⟩
       have HV := Lib.hid hv
       obtain ⟨X, hX⟩ : ∃ X, toEx e = X := ⟨_, rfl⟩
       rw [hX] at hv
       obtain ⟨eo, en, es, el⟩ := X
       obtain ⟨hn1, b1, o1, sp1, c1, rfl, hsp1, hll1⟩ := hv
       obtain ⟨m, hm⟩ : ∃ m, el.length = m := ⟨_, rfl⟩
       rw [hm] at HV ⊢
       have HG := Lib.hid (hA1.heap (show w.heap.size ≠ rb by omega) HbX.out)
       have HA1 := Lib.hid hA1
       have HD1 := Lib.hid hd1
       have HR1 := Lib.hid hR1
       clear hll1 hsp1 hX hm hR1 hA1 hd1))
  have hBe := box_below w1 (Obj.cells #[.string ⟨eo.toArray⟩, .int .u16 (en : Nat), .string ⟨es.toArray⟩, .slice sp1 m c1] 25)
  have hEb := heap_alloc_new w1 (Obj.cells #[.string ⟨eo.toArray⟩, .int .u16 (en : Nat), .string ⟨es.toArray⟩, .slice sp1 m c1] 25)
  have hR2 := below_heap hBe HR1.out
  have hG2 := below_heap hBe HG.out
  have hV2 := ExP.keep (Q := fun k => w.heap.size + 1 ≤ k) (Stand.below hBe) (fun k _ _ hk _ => by have : (w.alloc zero25).heap.size ≤ k := hk; simpa using this) HV.out
  have hA2 := (Ap.of HX.out).trans (HA1.out.trans (Ap.of hBe))
  have hs1 : w.heap.size + 1 ≤ w1.heap.size := by have := HA1.out.size; simpa using this
  have hsA : (w1.alloc (Obj.cells #[.string ⟨eo.toArray⟩, .int .u16 (en : Nat), .string ⟨es.toArray⟩, .slice sp1 m c1] 25)).heap.size = w1.heap.size + 1 := by simp
  obtain ⟨we, hwe⟩ : ∃ we, w1.heap.size = we := ⟨_, rfl⟩
  rw [hwe] at hEb hs1 hsA ⊢
  generalize w1.alloc (Obj.cells #[.string ⟨eo.toArray⟩, .int .u16 (en : Nat), .string ⟨es.toArray⟩, .slice sp1 m c1] 25) = WA at hEb hR2 hG2 hV2 hA2 hsA ⊢
  obtain ⟨e0, e1, e2, e3⟩ := cells_box hEb
  have hBb := box_below WA (Obj.cells #[.string ⟨eo.toArray⟩, .int .u16 (en : Nat), .string ⟨es.toArray⟩, .slice sp1 m c1] 25)
  have hAb := heap_alloc_new WA (Obj.cells #[.string ⟨eo.toArray⟩, .int .u16 (en : Nat), .string ⟨es.toArray⟩, .slice sp1 m c1] 25)
  have hG3 := below_heap hBb hG2
  obtain ⟨g0, g1, g2, g3⟩ := cells_box hG3
  have f0 := Lib.frozen_of_heap hG3 0
  have f1 := Lib.frozen_of_heap hG3 1
  have f2 := Lib.frozen_of_heap hG3 2
  have f3 := Lib.frozen_of_heap hG3 3
  have hV3 := ExP.keep (Q := fun k => w.heap.size + 1 ≤ k) (Stand.below hBb) (fun _ _ _ h _ => h) hV2
  have hC := hV3.cells (b := WA.heap.size) (o := 0) (cells_box hAb).1 (cells_box hAb).2.1 (cells_box hAb).2.2.1 (cells_box hAb).2.2.2
  have HV3 : Hid (ExP (fun k => w.heap.size + 1 ≤ k) (WA.alloc (Obj.cells #[.string ⟨eo.toArray⟩, .int .u16 (en : Nat), .string ⟨es.toArray⟩, .slice sp1 m c1] 25)) (.agg #[.string ⟨T.toArray⟩, .int .u16 0, .string ⟨#[]⟩, .slice (some ⟨WA.heap.size, 0, none⟩) 1 1]) (toEx (.un ox e))) := by
    refine Lib.hid ⟨by omega, WA.heap.size, 0, some ⟨WA.heap.size, 0, none⟩, 1, by rw [HT.out]; rfl, fun _ => ⟨rfl, by rw [hsA]; omega⟩, ?_⟩
    simp only [ListP, and_true]
    exact hC
  have HG3 := Lib.hid hG3
  have HR3 := Lib.hid (below_heap hBb hR2)
  have HA3 := Lib.hid (hA2.trans (Ap.of hBb))
  clear hBe hR2 hG2 hV2 hA2 hEb hG3 hV3 hBb hAb hC hsA
  go_wp2
  refine finE rfl rfl rfl (four_set HG3.out _ _ _ _) rfl ?_
  exact post_ret (wX := w.alloc zero25) hrb (by simp) (ExP.keep (fun _ _ _ _ h => h) (fun k _ _ hk _ => by have : w.heap.size + 1 ≤ k := hk; show (w.alloc zero25).heap.size ≤ k; simpa using this) HV3.out) HD1.out hii hi1 HR3.out HA3.out
end Go.Proofs.YtaoeipbofhkkcaaGreatDoor
namespace Go.Proofs.YtaoeipbofhkkcaaGreatDoor
open Go.RowKit Go.Proofs.NumMath

theorem word_one (w : World) (s : List UInt8) : WordsAt (w.alloc (Obj.cells #[.string ⟨s.toArray⟩] 9)) (.slice (some ⟨w.heap.size, 0, none⟩) 1 1) [s] := words_at (ops := [s]) (heap_alloc_new w _) 1
set_option maxHeartbeats 4000000 in
set_option maxRecDepth 100000 in
theorem lev1_any (o : Nat) (l : List Tok) (e : RE) (r : List Tok) (x : RE) (r' : List Tok) (hp : Reads (1 + 1) o l e r) (hl : RlR 1 o e r x r') : Runs 51 o l x r' := by
  intro w0 rb lv L i w hE hB hd hi ho hR
  have hrb : rb < w.heap.size := (Array.getElem?_eq_some_iff.1 hR).1
  have hX := box_below w zero25
  have hY := box_below (w.alloc zero25) (Obj.cells #[.string ⟨#[79, 82]⟩, .string ⟨#[88, 79, 82]⟩] 9)
  have hXY : Below w.heap.size w ((w.alloc zero25).alloc (Obj.cells #[.string ⟨#[79, 82]⟩, .string ⟨#[88, 79, 82]⟩] 9)) := hX.trans (hY.mono hX.size)
  have hbY : ((w.alloc zero25).alloc (Obj.cells #[.string ⟨#[79, 82]⟩, .string ⟨#[88, 79, 82]⟩] 9)).heap[w.heap.size + 1]? = some (Obj.cells #[.string ⟨#[79, 82]⟩, .string ⟨#[88, 79, 82]⟩] 9) := by have := heap_alloc_new (w.alloc zero25) (Obj.cells #[.string ⟨#[79, 82]⟩, .string ⟨#[88, 79, 82]⟩] 9); rwa [show (w.alloc zero25).heap.size = w.heap.size + 1 by simp] at this
  have HbX := Lib.hid (below_heap hY (heap_alloc_new w zero25))
  have HP := Lib.hid (row1_any o l e r x r' hp hl w0 rb (w.heap.size + 1) 2 lv L i ((w.alloc zero25).alloc (Obj.cells #[.string ⟨#[79, 82]⟩, .string ⟨#[88, 79, 82]⟩] 9)) hE (hB.trans (hXY.mono hB.size)) hd hi ho (below_heap hXY hR) (by omega) hbY)
  have HX := Lib.hid hXY
  clear hp hl hB hE hX hY hXY hbY hd hR
  go_enter Tryz.func51, Tryz.ntmps51
  go_wp2_with (first
    | (go_at_call 75; refine HP.out.mono ?_; rintro _ w1 ⟨v, i1, rfl, hv, hd1, hii, hi1, hR1, hA1⟩
       have HV := Lib.hid hv
       obtain ⟨X, hX⟩ : ∃ X, toEx x = X := ⟨_, rfl⟩
       rw [hX] at hv
       obtain ⟨eo, en, es, el⟩ := X
       obtain ⟨hn1, b1, o1, sp1, c1, rfl, hsp1, hll1⟩ := hv
       obtain ⟨m, hm⟩ : ∃ m, el.length = m := ⟨_, rfl⟩
       rw [hm] at HV ⊢
       have HG := Lib.hid (hA1.heap (show w.heap.size ≠ rb by omega) HbX.out)
       obtain ⟨g0, g1, g2, g3⟩ := cells_box HG.out
       have f0 := Lib.frozen_of_heap HG.out 0
       have f1 := Lib.frozen_of_heap HG.out 1
       have f2 := Lib.frozen_of_heap HG.out 2
       have f3 := Lib.frozen_of_heap HG.out 3
       have HA1 := Lib.hid hA1
       have HD1 := Lib.hid hd1
       have HR1 := Lib.hid hR1
       clear hll1 hsp1 hX hm hR1 hA1 hd1))
  refine finE rfl rfl rfl (four_set HG.out _ _ _ _) rfl ?_
  exact post_ret (wX := (w.alloc zero25).alloc (Obj.cells #[.string ⟨#[79, 82]⟩, .string ⟨#[88, 79, 82]⟩] 9)) hrb (by simp) HV.out HD1.out hii hi1 HR1.out ((Ap.of HX.out).trans HA1.out)
set_option maxHeartbeats 4000000 in
set_option maxRecDepth 100000 in
theorem lev2_any (o : Nat) (l : List Tok) (e : RE) (r : List Tok) (x : RE) (r' : List Tok) (hp : Reads (2 + 1) o l e r) (hl : RlR 2 o e r x r') : Runs 76 o l x r' := by
  intro w0 rb lv L i w hE hB hd hi ho hR
  have hrb : rb < w.heap.size := (Array.getElem?_eq_some_iff.1 hR).1
  have hX := box_below w zero25
  have hY := box_below (w.alloc zero25) (Obj.cells #[.string ⟨#[65, 78, 68]⟩] 9)
  have hXY : Below w.heap.size w ((w.alloc zero25).alloc (Obj.cells #[.string ⟨#[65, 78, 68]⟩] 9)) := hX.trans (hY.mono hX.size)
  have hbY : ((w.alloc zero25).alloc (Obj.cells #[.string ⟨#[65, 78, 68]⟩] 9)).heap[w.heap.size + 1]? = some (Obj.cells #[.string ⟨#[65, 78, 68]⟩] 9) := by have := heap_alloc_new (w.alloc zero25) (Obj.cells #[.string ⟨#[65, 78, 68]⟩] 9); rwa [show (w.alloc zero25).heap.size = w.heap.size + 1 by simp] at this
  have HbX := Lib.hid (below_heap hY (heap_alloc_new w zero25))
  have HP := Lib.hid (row2_any o l e r x r' hp hl w0 rb (w.heap.size + 1) 1 lv L i ((w.alloc zero25).alloc (Obj.cells #[.string ⟨#[65, 78, 68]⟩] 9)) hE (hB.trans (hXY.mono hB.size)) hd hi ho (below_heap hXY hR) (by omega) hbY)
  have HX := Lib.hid hXY
  clear hp hl hB hE hX hY hXY hbY hd hR
  go_enter Tryz.func76, Tryz.ntmps76
  go_wp2_with (first
    | (go_at_call 75; refine HP.out.mono ?_; rintro _ w1 ⟨v, i1, rfl, hv, hd1, hii, hi1, hR1, hA1⟩
       have HV := Lib.hid hv
       obtain ⟨X, hX⟩ : ∃ X, toEx x = X := ⟨_, rfl⟩
       rw [hX] at hv
       obtain ⟨eo, en, es, el⟩ := X
       obtain ⟨hn1, b1, o1, sp1, c1, rfl, hsp1, hll1⟩ := hv
       obtain ⟨m, hm⟩ : ∃ m, el.length = m := ⟨_, rfl⟩
       rw [hm] at HV ⊢
       have HG := Lib.hid (hA1.heap (show w.heap.size ≠ rb by omega) HbX.out)
       obtain ⟨g0, g1, g2, g3⟩ := cells_box HG.out
       have f0 := Lib.frozen_of_heap HG.out 0
       have f1 := Lib.frozen_of_heap HG.out 1
       have f2 := Lib.frozen_of_heap HG.out 2
       have f3 := Lib.frozen_of_heap HG.out 3
       have HA1 := Lib.hid hA1
       have HD1 := Lib.hid hd1
       have HR1 := Lib.hid hR1
       clear hll1 hsp1 hX hm hR1 hA1 hd1))
  refine finE rfl rfl rfl (four_set HG.out _ _ _ _) rfl ?_
  exact post_ret (wX := (w.alloc zero25).alloc (Obj.cells #[.string ⟨#[65, 78, 68]⟩] 9)) hrb (by simp) HV.out HD1.out hii hi1 HR1.out ((Ap.of HX.out).trans HA1.out)
set_option maxHeartbeats 4000000 in
set_option maxRecDepth 100000 in
theorem lev4_any (o : Nat) (l : List Tok) (e : RE) (r : List Tok) (x : RE) (r' : List Tok) (hp : Reads (4 + 1) o l e r) (hl : RlR 4 o e r x r') : Runs 106 o l x r' := by
  intro w0 rb lv L i w hE hB hd hi ho hR
  have hrb : rb < w.heap.size := (Array.getElem?_eq_some_iff.1 hR).1
  have hX := box_below w zero25
  have hY := box_below (w.alloc zero25) (Obj.cells #[.string ⟨#[43]⟩, .string ⟨#[45]⟩] 9)
  have hXY : Below w.heap.size w ((w.alloc zero25).alloc (Obj.cells #[.string ⟨#[43]⟩, .string ⟨#[45]⟩] 9)) := hX.trans (hY.mono hX.size)
  have hbY : ((w.alloc zero25).alloc (Obj.cells #[.string ⟨#[43]⟩, .string ⟨#[45]⟩] 9)).heap[w.heap.size + 1]? = some (Obj.cells #[.string ⟨#[43]⟩, .string ⟨#[45]⟩] 9) := by have := heap_alloc_new (w.alloc zero25) (Obj.cells #[.string ⟨#[43]⟩, .string ⟨#[45]⟩] 9); rwa [show (w.alloc zero25).heap.size = w.heap.size + 1 by simp] at this
  have HbX := Lib.hid (below_heap hY (heap_alloc_new w zero25))
  have HP := Lib.hid (row4_any o l e r x r' hp hl w0 rb (w.heap.size + 1) 2 lv L i ((w.alloc zero25).alloc (Obj.cells #[.string ⟨#[43]⟩, .string ⟨#[45]⟩] 9)) hE (hB.trans (hXY.mono hB.size)) hd hi ho (below_heap hXY hR) (by omega) hbY)
  have HX := Lib.hid hXY
  clear hp hl hB hE hX hY hXY hbY hd hR
  go_enter Tryz.func106, Tryz.ntmps106
  go_wp2_with (first
    | (go_at_call 75; refine HP.out.mono ?_; rintro _ w1 ⟨v, i1, rfl, hv, hd1, hii, hi1, hR1, hA1⟩
       have HV := Lib.hid hv
       obtain ⟨X, hX⟩ : ∃ X, toEx x = X := ⟨_, rfl⟩
       rw [hX] at hv
       obtain ⟨eo, en, es, el⟩ := X
       obtain ⟨hn1, b1, o1, sp1, c1, rfl, hsp1, hll1⟩ := hv
       obtain ⟨m, hm⟩ : ∃ m, el.length = m := ⟨_, rfl⟩
       rw [hm] at HV ⊢
       have HG := Lib.hid (hA1.heap (show w.heap.size ≠ rb by omega) HbX.out)
       obtain ⟨g0, g1, g2, g3⟩ := cells_box HG.out
       have f0 := Lib.frozen_of_heap HG.out 0
       have f1 := Lib.frozen_of_heap HG.out 1
       have f2 := Lib.frozen_of_heap HG.out 2
       have f3 := Lib.frozen_of_heap HG.out 3
       have HA1 := Lib.hid hA1
       have HD1 := Lib.hid hd1
       have HR1 := Lib.hid hR1
       clear hll1 hsp1 hX hm hR1 hA1 hd1))
  refine finE rfl rfl rfl (four_set HG.out _ _ _ _) rfl ?_
  exact post_ret (wX := (w.alloc zero25).alloc (Obj.cells #[.string ⟨#[43]⟩, .string ⟨#[45]⟩] 9)) hrb (by simp) HV.out HD1.out hii hi1 HR1.out ((Ap.of HX.out).trans HA1.out)
set_option maxHeartbeats 4000000 in
set_option maxRecDepth 100000 in
theorem lev5_any (o : Nat) (l : List Tok) (e : RE) (r : List Tok) (x : RE) (r' : List Tok) (hp : Reads (5 + 1) o l e r) (hl : RlR 5 o e r x r') : Runs 120 o l x r' := by
  intro w0 rb lv L i w hE hB hd hi ho hR
  have hrb : rb < w.heap.size := (Array.getElem?_eq_some_iff.1 hR).1
  have hX := box_below w zero25
  have hY := box_below (w.alloc zero25) (Obj.cells #[.string ⟨#[42]⟩, .string ⟨#[47]⟩, .string ⟨#[77, 79, 68]⟩, .string ⟨#[83, 72, 76]⟩, .string ⟨#[83, 72, 82]⟩] 9)
  have hXY : Below w.heap.size w ((w.alloc zero25).alloc (Obj.cells #[.string ⟨#[42]⟩, .string ⟨#[47]⟩, .string ⟨#[77, 79, 68]⟩, .string ⟨#[83, 72, 76]⟩, .string ⟨#[83, 72, 82]⟩] 9)) := hX.trans (hY.mono hX.size)
  have hbY : ((w.alloc zero25).alloc (Obj.cells #[.string ⟨#[42]⟩, .string ⟨#[47]⟩, .string ⟨#[77, 79, 68]⟩, .string ⟨#[83, 72, 76]⟩, .string ⟨#[83, 72, 82]⟩] 9)).heap[w.heap.size + 1]? = some (Obj.cells #[.string ⟨#[42]⟩, .string ⟨#[47]⟩, .string ⟨#[77, 79, 68]⟩, .string ⟨#[83, 72, 76]⟩, .string ⟨#[83, 72, 82]⟩] 9) := by have := heap_alloc_new (w.alloc zero25) (Obj.cells #[.string ⟨#[42]⟩, .string ⟨#[47]⟩, .string ⟨#[77, 79, 68]⟩, .string ⟨#[83, 72, 76]⟩, .string ⟨#[83, 72, 82]⟩] 9); rwa [show (w.alloc zero25).heap.size = w.heap.size + 1 by simp] at this
  have HbX := Lib.hid (below_heap hY (heap_alloc_new w zero25))
  have HP := Lib.hid (row5_any o l e r x r' hp hl w0 rb (w.heap.size + 1) 5 lv L i ((w.alloc zero25).alloc (Obj.cells #[.string ⟨#[42]⟩, .string ⟨#[47]⟩, .string ⟨#[77, 79, 68]⟩, .string ⟨#[83, 72, 76]⟩, .string ⟨#[83, 72, 82]⟩] 9)) hE (hB.trans (hXY.mono hB.size)) hd hi ho (below_heap hXY hR) (by omega) hbY)
  have HX := Lib.hid hXY
  clear hp hl hB hE hX hY hXY hbY hd hR
  go_enter Tryz.func120, Tryz.ntmps120
  go_wp2_with (first
    | (go_at_call 75; refine HP.out.mono ?_; rintro _ w1 ⟨v, i1, rfl, hv, hd1, hii, hi1, hR1, hA1⟩
       have HV := Lib.hid hv
       obtain ⟨X, hX⟩ : ∃ X, toEx x = X := ⟨_, rfl⟩
       rw [hX] at hv
       obtain ⟨eo, en, es, el⟩ := X
       obtain ⟨hn1, b1, o1, sp1, c1, rfl, hsp1, hll1⟩ := hv
       obtain ⟨m, hm⟩ : ∃ m, el.length = m := ⟨_, rfl⟩
       rw [hm] at HV ⊢
       have HG := Lib.hid (hA1.heap (show w.heap.size ≠ rb by omega) HbX.out)
       obtain ⟨g0, g1, g2, g3⟩ := cells_box HG.out
       have f0 := Lib.frozen_of_heap HG.out 0
       have f1 := Lib.frozen_of_heap HG.out 1
       have f2 := Lib.frozen_of_heap HG.out 2
       have f3 := Lib.frozen_of_heap HG.out 3
       have HA1 := Lib.hid hA1
       have HD1 := Lib.hid hd1
       have HR1 := Lib.hid hR1
       clear hll1 hsp1 hX hm hR1 hA1 hd1))
  refine finE rfl rfl rfl (four_set HG.out _ _ _ _) rfl ?_
  exact post_ret (wX := (w.alloc zero25).alloc (Obj.cells #[.string ⟨#[42]⟩, .string ⟨#[47]⟩, .string ⟨#[77, 79, 68]⟩, .string ⟨#[83, 72, 76]⟩, .string ⟨#[83, 72, 82]⟩] 9)) hrb (by simp) HV.out HD1.out hii hi1 HR1.out ((Ap.of HX.out).trans HA1.out)
set_option maxHeartbeats 4000000 in
set_option maxRecDepth 100000 in
theorem on95_any (o : Nat) (u : List Tok) (a : RE) (r : List Tok) (hp : Runs 95 o u a r) : Runs 95 (o + 1) (tok1 .inv :: u) (.un .inv a) r := by
  intro w0 rb lv L i w hE hB hd hi ho hR
  have hrb : rb < w.heap.size := (Array.getElem?_eq_some_iff.1 hR).1
  have hX := box_below w zero25
  have hY := box_below (w.alloc zero25) (Obj.cells #[.string ⟨#[78, 79, 84]⟩] 9)
  have hXY : Below w.heap.size w ((w.alloc zero25).alloc (Obj.cells #[.string ⟨#[78, 79, 84]⟩] 9)) := hX.trans (hY.mono hX.size)
  obtain ⟨ht, hd3, hi3⟩ := drop_some hd
  have hpass := pass_any rb lv _ L [[78, 79, 84]] i (48 - (o + 1)) _ (hE.t.keep (keep_bel (hB.trans (hXY.mono hB.size)))) hi hE.l hE.s (below_heap hXY hR) (word_one (w.alloc zero25) [78, 79, 84]) (by simp)
  rw [ht, Option.getD_some, show passB [[78, 79, 84]] (tok1 .inv) = true by decide] at hpass
  simp only [if_true, show (tok1 .inv).s = [78, 79, 84] from rfl, show (w.alloc zero25).heap.size = w.heap.size + 1 by simp] at hpass
  have HQ := Lib.hid hpass
  have HbX := Lib.hid (below_heap hY (heap_alloc_new w zero25))
  have HX := Lib.hid hXY
  have HP := Lib.hid (fun W hB' hR' => ahead95_any .inv o u a r hp w0 rb lv L (i + 1) W hE hB' hd3 hi3 ho hR')
  have HB := Lib.hid (hB.trans (hXY.mono hB.size))
  have HE := Lib.hid hE
  have hbb := hE.b
  clear hp hB hE hX hY hXY hd hR hpass ht hd3
  go_enter Tryz.func95, Tryz.ntmps95
  go_wp2_with (first
    | (go_at_call 94; refine HQ.out.mono ?_; rintro _ w2 ⟨rfl, hR2, hA2⟩
       have HR2 := Lib.hid hR2
       have HA2 := Lib.hid hA2
       have HB2 := Lib.hid (HB.out.trans (hA2.below hbb HB.out.size))
       clear hR2 hA2)
    | (go_at_call 107; refine (HP.out _ HB2.out HR2.out).mono ?_; rintro _ w1 ⟨v, i1, rfl, hv, hd1, hii, hi1, hR1, hA1'⟩
       have hA1 := HA2.out.trans hA1'
       have HV := Lib.hid hv
       obtain ⟨X, hX⟩ : ∃ X, toEx (.un .inv a) = X := ⟨_, rfl⟩
       rw [hX] at hv
       obtain ⟨eo, en, es, el⟩ := X
       obtain ⟨hn1, b1, o1, sp1, c1, rfl, hsp1, hll1⟩ := hv
       obtain ⟨m, hm⟩ : ∃ m, el.length = m := ⟨_, rfl⟩
       rw [hm] at HV ⊢
       have HG := Lib.hid (hA1.heap (show w.heap.size ≠ rb by omega) HbX.out)
       obtain ⟨g0, g1, g2, g3⟩ := cells_box HG.out
       have f0 := Lib.frozen_of_heap HG.out 0
       have f1 := Lib.frozen_of_heap HG.out 1
       have f2 := Lib.frozen_of_heap HG.out 2
       have f3 := Lib.frozen_of_heap HG.out 3
       have HA1 := Lib.hid hA1
       have HD1 := Lib.hid hd1
       have HR1 := Lib.hid hR1
       clear hll1 hsp1 hX hm hR1 hA1 hd1))
  refine finE rfl rfl rfl (four_set HG.out _ _ _ _) rfl ?_
  exact post_ret (wX := w2) hrb (by have := HA2.out.size; simp at this; omega) HV.out HD1.out (Nat.le_of_succ_le hii) hi1 HR1.out ((Ap.of HX.out).trans HA1.out)
set_option maxHeartbeats 4000000 in
set_option maxRecDepth 100000 in
theorem off95_any (o : Nat) (t : Tok) (u : List Tok) (e : RE) (r : List Tok) (hf : passB [[78, 79, 84]] t = false) (hp : Runs 106 o (t :: u) e r) : Runs 95 o (t :: u) e r := by
  intro w0 rb lv L i w hE hB hd hi ho hR
  have hrb : rb < w.heap.size := (Array.getElem?_eq_some_iff.1 hR).1
  have hX := box_below w zero25
  have hY := box_below (w.alloc zero25) (Obj.cells #[.string ⟨#[78, 79, 84]⟩] 9)
  have hXY : Below w.heap.size w ((w.alloc zero25).alloc (Obj.cells #[.string ⟨#[78, 79, 84]⟩] 9)) := hX.trans (hY.mono hX.size)
  obtain ⟨ht, hd3, hi3⟩ := drop_some hd
  have hpass := pass_any rb lv _ L [[78, 79, 84]] i (48 - o) _ (hE.t.keep (keep_bel (hB.trans (hXY.mono hB.size)))) hi hE.l hE.s (below_heap hXY hR) (word_one (w.alloc zero25) [78, 79, 84]) (by simp)
  rw [ht, Option.getD_some, hf] at hpass
  simp only [Bool.false_eq_true, if_false, show (w.alloc zero25).heap.size = w.heap.size + 1 by simp] at hpass
  have HQ := Lib.hid hpass
  have HbX := Lib.hid (below_heap hY (heap_alloc_new w zero25))
  have HX := Lib.hid hXY
  have HP := Lib.hid (fun W hB' hR' => hp w0 rb lv L i W hE hB' hd hi ho hR')
  have HB := Lib.hid (hB.trans (hXY.mono hB.size))
  have hbb := hE.b
  clear hp hB hE hX hY hXY hd hR hpass ht hd3 hf
  go_enter Tryz.func95, Tryz.ntmps95
  go_wp2_with (first
    | (go_at_call 94; refine HQ.out.mono ?_; rintro _ w2 ⟨rfl, hR2, hA2⟩
       have HR2 := Lib.hid hR2
       have HA2 := Lib.hid hA2
       have HB2 := Lib.hid (HB.out.trans (hA2.below hbb HB.out.size))
       clear hR2 hA2)
    | (go_at_call 106; refine (HP.out _ HB2.out HR2.out).mono ?_; rintro _ w1 ⟨v, i1, rfl, hv, hd1, hii, hi1, hR1, hA1'⟩
       have hA1 := HA2.out.trans hA1'
       have HV := Lib.hid hv
       obtain ⟨X, hX⟩ : ∃ X, toEx e = X := ⟨_, rfl⟩
       rw [hX] at hv
       obtain ⟨eo, en, es, el⟩ := X
       obtain ⟨hn1, b1, o1, sp1, c1, rfl, hsp1, hll1⟩ := hv
       obtain ⟨m, hm⟩ : ∃ m, el.length = m := ⟨_, rfl⟩
       rw [hm] at HV ⊢
       have HG := Lib.hid (hA1.heap (show w.heap.size ≠ rb by omega) HbX.out)
       obtain ⟨g0, g1, g2, g3⟩ := cells_box HG.out
       have f0 := Lib.frozen_of_heap HG.out 0
       have f1 := Lib.frozen_of_heap HG.out 1
       have f2 := Lib.frozen_of_heap HG.out 2
       have f3 := Lib.frozen_of_heap HG.out 3
       have HA1 := Lib.hid hA1
       have HD1 := Lib.hid hd1
       have HR1 := Lib.hid hR1
       clear hll1 hsp1 hX hm hR1 hA1 hd1))
  refine finE rfl rfl rfl (four_set HG.out _ _ _ _) rfl ?_
  exact post_ret (wX := w2) hrb (by have := HA2.out.size; simp at this; omega) HV.out HD1.out hii hi1 HR1.out ((Ap.of HX.out).trans HA1.out)
set_option maxHeartbeats 4000000 in
set_option maxRecDepth 100000 in
theorem on132_any (o : Nat) (u : List Tok) (a : RE) (r : List Tok) (hp : Runs 132 o u a r) : Runs 132 (o + 1) (tok1 .neg :: u) (.un .neg a) r := by
  intro w0 rb lv L i w hE hB hd hi ho hR
  have hrb : rb < w.heap.size := (Array.getElem?_eq_some_iff.1 hR).1
  have hX := box_below w zero25
  have hY := box_below (w.alloc zero25) (Obj.cells #[.string ⟨#[45]⟩] 9)
  have hXY : Below w.heap.size w ((w.alloc zero25).alloc (Obj.cells #[.string ⟨#[45]⟩] 9)) := hX.trans (hY.mono hX.size)
  obtain ⟨ht, hd3, hi3⟩ := drop_some hd
  have hpass := pass_any rb lv _ L [[45]] i (48 - (o + 1)) _ (hE.t.keep (keep_bel (hB.trans (hXY.mono hB.size)))) hi hE.l hE.s (below_heap hXY hR) (word_one (w.alloc zero25) [45]) (by simp)
  rw [ht, Option.getD_some, show passB [[45]] (tok1 .neg) = true by decide] at hpass
  simp only [if_true, show (tok1 .neg).s = [45] from rfl, show (w.alloc zero25).heap.size = w.heap.size + 1 by simp] at hpass
  have HQ := Lib.hid hpass
  have HbX := Lib.hid (below_heap hY (heap_alloc_new w zero25))
  have HX := Lib.hid hXY
  have HP := Lib.hid (fun W hB' hR' => ahead132_any .neg o u a r hp w0 rb lv L (i + 1) W hE hB' hd3 hi3 ho hR')
  have HB := Lib.hid (hB.trans (hXY.mono hB.size))
  have HE := Lib.hid hE
  have hbb := hE.b
  clear hp hB hE hX hY hXY hd hR hpass ht hd3
  go_enter Tryz.func132, Tryz.ntmps132
  go_wp2_with (first
    | (go_at_call 94; refine HQ.out.mono ?_; rintro _ w2 ⟨rfl, hR2, hA2⟩
       have HR2 := Lib.hid hR2
       have HA2 := Lib.hid hA2
       have HB2 := Lib.hid (HB.out.trans (hA2.below hbb HB.out.size))
       clear hR2 hA2)
    | (go_at_call 107; refine (HP.out _ HB2.out HR2.out).mono ?_; rintro _ w1 ⟨v, i1, rfl, hv, hd1, hii, hi1, hR1, hA1'⟩
       have hA1 := HA2.out.trans hA1'
       have HV := Lib.hid hv
       obtain ⟨X, hX⟩ : ∃ X, toEx (.un .neg a) = X := ⟨_, rfl⟩
       rw [hX] at hv
       obtain ⟨eo, en, es, el⟩ := X
       obtain ⟨hn1, b1, o1, sp1, c1, rfl, hsp1, hll1⟩ := hv
       obtain ⟨m, hm⟩ : ∃ m, el.length = m := ⟨_, rfl⟩
       rw [hm] at HV ⊢
       have HG := Lib.hid (hA1.heap (show w.heap.size ≠ rb by omega) HbX.out)
       obtain ⟨g0, g1, g2, g3⟩ := cells_box HG.out
       have f0 := Lib.frozen_of_heap HG.out 0
       have f1 := Lib.frozen_of_heap HG.out 1
       have f2 := Lib.frozen_of_heap HG.out 2
       have f3 := Lib.frozen_of_heap HG.out 3
       have HA1 := Lib.hid hA1
       have HD1 := Lib.hid hd1
       have HR1 := Lib.hid hR1
       clear hll1 hsp1 hX hm hR1 hA1 hd1))
  refine finE rfl rfl rfl (four_set HG.out _ _ _ _) rfl ?_
  exact post_ret (wX := w2) hrb (by have := HA2.out.size; simp at this; omega) HV.out HD1.out (Nat.le_of_succ_le hii) hi1 HR1.out ((Ap.of HX.out).trans HA1.out)
set_option maxHeartbeats 4000000 in
set_option maxRecDepth 100000 in
theorem off132_any (o : Nat) (t : Tok) (u : List Tok) (e : RE) (r : List Tok) (hf : passB [[45]] t = false) (hp : Runs 137 o (t :: u) e r) : Runs 132 o (t :: u) e r := by
  intro w0 rb lv L i w hE hB hd hi ho hR
  have hrb : rb < w.heap.size := (Array.getElem?_eq_some_iff.1 hR).1
  have hX := box_below w zero25
  have hY := box_below (w.alloc zero25) (Obj.cells #[.string ⟨#[45]⟩] 9)
  have hXY : Below w.heap.size w ((w.alloc zero25).alloc (Obj.cells #[.string ⟨#[45]⟩] 9)) := hX.trans (hY.mono hX.size)
  obtain ⟨ht, hd3, hi3⟩ := drop_some hd
  have hpass := pass_any rb lv _ L [[45]] i (48 - o) _ (hE.t.keep (keep_bel (hB.trans (hXY.mono hB.size)))) hi hE.l hE.s (below_heap hXY hR) (word_one (w.alloc zero25) [45]) (by simp)
  rw [ht, Option.getD_some, hf] at hpass
  simp only [Bool.false_eq_true, if_false, show (w.alloc zero25).heap.size = w.heap.size + 1 by simp] at hpass
  have HQ := Lib.hid hpass
  have HbX := Lib.hid (below_heap hY (heap_alloc_new w zero25))
  have HX := Lib.hid hXY
  have HP := Lib.hid (fun W hB' hR' => hp w0 rb lv L i W hE hB' hd hi ho hR')
  have HB := Lib.hid (hB.trans (hXY.mono hB.size))
  have hbb := hE.b
  clear hp hB hE hX hY hXY hd hR hpass ht hd3 hf
  go_enter Tryz.func132, Tryz.ntmps132
  go_wp2_with (first
    | (go_at_call 94; refine HQ.out.mono ?_; rintro _ w2 ⟨rfl, hR2, hA2⟩
       have HR2 := Lib.hid hR2
       have HA2 := Lib.hid hA2
       have HB2 := Lib.hid (HB.out.trans (hA2.below hbb HB.out.size))
       clear hR2 hA2)
    | (go_at_call 137; refine (HP.out _ HB2.out HR2.out).mono ?_; rintro _ w1 ⟨v, i1, rfl, hv, hd1, hii, hi1, hR1, hA1'⟩
       have hA1 := HA2.out.trans hA1'
       have HV := Lib.hid hv
       obtain ⟨X, hX⟩ : ∃ X, toEx e = X := ⟨_, rfl⟩
       rw [hX] at hv
       obtain ⟨eo, en, es, el⟩ := X
       obtain ⟨hn1, b1, o1, sp1, c1, rfl, hsp1, hll1⟩ := hv
       obtain ⟨m, hm⟩ : ∃ m, el.length = m := ⟨_, rfl⟩
       rw [hm] at HV ⊢
       have HG := Lib.hid (hA1.heap (show w.heap.size ≠ rb by omega) HbX.out)
       obtain ⟨g0, g1, g2, g3⟩ := cells_box HG.out
       have f0 := Lib.frozen_of_heap HG.out 0
       have f1 := Lib.frozen_of_heap HG.out 1
       have f2 := Lib.frozen_of_heap HG.out 2
       have f3 := Lib.frozen_of_heap HG.out 3
       have HA1 := Lib.hid hA1
       have HD1 := Lib.hid hd1
       have HR1 := Lib.hid hR1
       clear hll1 hsp1 hX hm hR1 hA1 hd1))
  refine finE rfl rfl rfl (four_set HG.out _ _ _ _) rfl ?_
  exact post_ret (wX := w2) hrb (by have := HA2.out.size; simp at this; omega) HV.out HD1.out hii hi1 HR1.out ((Ap.of HX.out).trans HA1.out)
end Go.Proofs.YtaoeipbofhkkcaaGreatDoor
namespace Go.Proofs.YtaoeipbofhkkcaaGreatDoor
open Go.RowKit Go.Proofs.NumMath

set_option maxHeartbeats 4000000 in
set_option maxRecDepth 100000 in
theorem first_par (o : Nat) (u : List Tok) (a : RE) (r : List Tok) (hp : Runs 138 o u a r) : Runs 137 (o + 1) (lpT :: u) a r := by
  intro w0 rb lv L i w hE hB hd hi ho hR
  have hrb : rb < w.heap.size := (Array.getElem?_eq_some_iff.1 hR).1
  have hX := box_below w zero25
  have hY := box_below (w.alloc zero25) (Obj.cells #[.string ⟨#[40]⟩] 9)
  have hXY : Below w.heap.size w ((w.alloc zero25).alloc (Obj.cells #[.string ⟨#[40]⟩] 9)) := hX.trans (hY.mono hX.size)
  obtain ⟨ht, hd3, hi3⟩ := drop_some hd
  have hpass := pass_any rb lv _ L [[40]] i (48 - (o + 1)) _ (hE.t.keep (keep_bel (hB.trans (hXY.mono hB.size)))) hi hE.l hE.s (below_heap hXY hR) (word_one (w.alloc zero25) [40]) (by simp)
  rw [ht, Option.getD_some, show passB [[40]] lpT = true by decide] at hpass
  simp only [if_true, show lpT.s = [40] from rfl, show (w.alloc zero25).heap.size = w.heap.size + 1 by simp] at hpass
  have HQ := Lib.hid hpass
  have HbX := Lib.hid (below_heap hY (heap_alloc_new w zero25))
  have HX := Lib.hid hXY
  have HP := Lib.hid (fun W hB' hR' => within138_any o u a r hp w0 rb lv L (i + 1) W hE hB' hd3 hi3 ho hR')
  have HB := Lib.hid (hB.trans (hXY.mono hB.size))
  have HE := Lib.hid hE
  have hbb := hE.b
  clear hp hB hE hX hY hXY hd hR hpass ht hd3
  go_enter Tryz.func137, Tryz.ntmps137
  go_wp2_with (first
    | (go_at_call 94; refine HQ.out.mono ?_; rintro _ w2 ⟨rfl, hR2, hA2⟩
       have HR2 := Lib.hid hR2
       have HA2 := Lib.hid hA2
       have HB2 := Lib.hid (HB.out.trans (hA2.below hbb HB.out.size))
       clear hR2 hA2)
    | (go_at_call 121; refine (HP.out _ HB2.out HR2.out).mono ?_; rintro _ w1 ⟨v, i1, rfl, hv, hd1, hii, hi1, hR1, hA1'⟩
       have hA1 := HA2.out.trans hA1'
       have HV := Lib.hid hv
       obtain ⟨X, hX⟩ : ∃ X, toEx a = X := ⟨_, rfl⟩
       rw [hX] at hv
       obtain ⟨eo, en, es, el⟩ := X
       obtain ⟨hn1, b1, o1, sp1, c1, rfl, hsp1, hll1⟩ := hv
       obtain ⟨m, hm⟩ : ∃ m, el.length = m := ⟨_, rfl⟩
       rw [hm] at HV ⊢
       have HG := Lib.hid (hA1.heap (show w.heap.size ≠ rb by omega) HbX.out)
       obtain ⟨g0, g1, g2, g3⟩ := cells_box HG.out
       have f0 := Lib.frozen_of_heap HG.out 0
       have f1 := Lib.frozen_of_heap HG.out 1
       have f2 := Lib.frozen_of_heap HG.out 2
       have f3 := Lib.frozen_of_heap HG.out 3
       have HA1 := Lib.hid hA1
       have HD1 := Lib.hid hd1
       have HR1 := Lib.hid hR1
       clear hll1 hsp1 hX hm hR1 hA1 hd1))
  refine finE rfl rfl rfl (four_set HG.out _ _ _ _) rfl ?_
  exact post_ret (wX := w2) hrb (by have := HA2.out.size; simp at this; omega) HV.out HD1.out (Nat.le_of_succ_le hii) hi1 HR1.out ((Ap.of HX.out).trans HA1.out)
set_option maxHeartbeats 4000000 in
set_option maxRecDepth 100000 in
theorem first_here (o : Nat) (u : List Tok) : Runs 137 o (⟨4, [36], 0⟩ :: u) .here u := by
  intro w0 rb lv L i w hE hB hd hi ho hR
  have hrb : rb < w.heap.size := (Array.getElem?_eq_some_iff.1 hR).1
  have hX := box_below w zero25
  have hY := box_below (w.alloc zero25) (Obj.cells #[.string ⟨#[40]⟩] 9)
  have hXY : Below w.heap.size w ((w.alloc zero25).alloc (Obj.cells #[.string ⟨#[40]⟩] 9)) := hX.trans (hY.mono hX.size)
  obtain ⟨ht, hd3, hi3⟩ := drop_some hd
  have hpass := pass_any rb lv _ L [[40]] i (48 - o) _ (hE.t.keep (keep_bel (hB.trans (hXY.mono hB.size)))) hi hE.l hE.s (below_heap hXY hR) (word_one (w.alloc zero25) [40]) (by simp)
  rw [ht, Option.getD_some, show passB [[40]] ⟨4, [36], 0⟩ = false by decide] at hpass
  simp only [Bool.false_eq_true, if_false, show (w.alloc zero25).heap.size = w.heap.size + 1 by simp] at hpass
  have HQ := Lib.hid hpass
  have hp2 : ∀ W, Below w0.heap.size w0 W → RS rb lv i (48 - o) W → Calls Tryz.prog 94 #[.pointer (some ⟨rb, 0, none⟩), .slice (some ⟨W.heap.size, 0, none⟩) 1 1] (W.alloc (Obj.cells #[.string ⟨#[36]⟩] 9)) fun e w' => e = .returned (.string ⟨#[36]⟩) ∧ RS rb lv (i + 1) (48 - o) w' ∧ Ap rb (W.alloc (Obj.cells #[.string ⟨#[36]⟩] 9)) w' := fun W h1 h2 => by
    have hb2 := box_below W (Obj.cells #[.string ⟨#[36]⟩] 9)
    have := pass_any rb lv _ L [[36]] i (48 - o) _ (hE.t.keep (keep_bel (h1.trans (hb2.mono h1.size)))) hi hE.l hE.s (below_heap hb2 h2) (word_one W [36]) (by simp)
    rw [ht, Option.getD_some, show passB [[36]] ⟨4, [36], 0⟩ = true by decide] at this
    simpa only [if_true] using this
  have HP := Lib.hid hp2
  have HbX := Lib.hid (below_heap hY (heap_alloc_new w zero25))
  have HX := Lib.hid hXY
  have HB := Lib.hid (hB.trans (hXY.mono hB.size))
  have HD := Lib.hid hd3
  have hbb := hE.b
  clear hp2 hB hE hX hY hXY hd hR hpass ht hd3
  go_enter Tryz.func137, Tryz.ntmps137
  go_wp2_with (first
    | (go_at_call 94; (with_reducible refine HQ.out.mono ?_); rintro _ w2 ⟨rfl, hR2, hA2⟩
       have HR2 := Lib.hid hR2
       have HA2 := Lib.hid hA2
       have HB2 := Lib.hid (HB.out.trans (hA2.below hbb HB.out.size))
       clear hR2 hA2)
    | (go_at_call 94; refine (HP.out w2 HB2.out HR2.out).mono ?_; rintro _ w3 ⟨rfl, hR3, hA3⟩
       have HG := Lib.hid (hA3.heap (show w.heap.size ≠ rb by omega) (below_heap (box_below w2 _) (HA2.out.heap (show w.heap.size ≠ rb by omega) HbX.out)))
       obtain ⟨g0, g1, g2, g3⟩ := cells_box HG.out
       have f0 := Lib.frozen_of_heap HG.out 0
       have f1 := Lib.frozen_of_heap HG.out 1
       have f2 := Lib.frozen_of_heap HG.out 2
       have f3 := Lib.frozen_of_heap HG.out 3
       have HA3 := Lib.hid ((Ap.of HX.out).trans (HA2.out.trans ((Ap.of (box_below w2 _)).trans hA3)))
       have HR3 := Lib.hid hR3
       clear hR3 hA3))
  refine finE rfl rfl rfl (four_set HG.out _ _ _ _) rfl ?_
  exact post_ret (wX := w.alloc zero25) hrb (by simp) ⟨by omega, 0, 0, none, 0, rfl, fun h => absurd h (by simp), by simp [ListP]⟩ HD.out (Nat.le_succ i) hi3 HR3.out HA3.out
theorem pass_nam {s : List UInt8} (hs : pnameL s = true) (x : List UInt8) (hx : nameL x = false) : passB [x] ⟨1, s, 0⟩ = false := by
  have hn : nameL s = true := by simp only [pnameL, Bool.and_eq_true] at hs; exact hs.1.1
  have : s ≠ x := by rintro rfl; rw [hn] at hx; cases hx
  simp [passB, this]
set_option maxHeartbeats 4000000 in
set_option maxRecDepth 100000 in
theorem first_num (o : Nat) (n : Nat) (u : List Tok) (hn : n ≤ 65535) : Runs 137 o (⟨2, [], n⟩ :: u) (.num n) u := by
  intro w0 rb lv L i w hE hB hd hi ho hR
  have hrb : rb < w.heap.size := (Array.getElem?_eq_some_iff.1 hR).1
  have hX := box_below w zero25
  have hY := box_below (w.alloc zero25) (Obj.cells #[.string ⟨#[40]⟩] 9)
  have hXY : Below w.heap.size w ((w.alloc zero25).alloc (Obj.cells #[.string ⟨#[40]⟩] 9)) := hX.trans (hY.mono hX.size)
  obtain ⟨ht, hd3, hi3⟩ := drop_some hd
  have hpass := pass_any rb lv _ L [[40]] i (48 - o) _ (hE.t.keep (keep_bel (hB.trans (hXY.mono hB.size)))) hi hE.l hE.s (below_heap hXY hR) (word_one (w.alloc zero25) [40]) (by simp)
  rw [ht, Option.getD_some, show passB [[40]] ⟨2, [], n⟩ = false from by simp [passB]] at hpass
  simp only [Bool.false_eq_true, if_false, show (w.alloc zero25).heap.size = w.heap.size + 1 by simp] at hpass
  have HQ := Lib.hid hpass
  have hp2 : ∀ W, Below w0.heap.size w0 W → RS rb lv i (48 - o) W → Calls Tryz.prog 94 #[.pointer (some ⟨rb, 0, none⟩), .slice (some ⟨W.heap.size, 0, none⟩) 1 1] (W.alloc (Obj.cells #[.string ⟨#[36]⟩] 9)) fun e w' => e = .returned (.string ⟨#[]⟩) ∧ RS rb lv i (48 - o) w' ∧ Ap rb (W.alloc (Obj.cells #[.string ⟨#[36]⟩] 9)) w' := fun W h1 h2 => by
    have hb2 := box_below W (Obj.cells #[.string ⟨#[36]⟩] 9)
    have := pass_any rb lv _ L [[36]] i (48 - o) _ (hE.t.keep (keep_bel (h1.trans (hb2.mono h1.size)))) hi hE.l hE.s (below_heap hb2 h2) (word_one W [36]) (by simp)
    rw [ht, Option.getD_some, show passB [[36]] ⟨2, [], n⟩ = false from by simp [passB]] at this
    simpa only [Bool.false_eq_true, if_false] using this
  have hp3 : ∀ W, Below w0.heap.size w0 W → RS rb lv i (48 - o) W → Calls Tryz.prog 104 #[.pointer (some ⟨rb, 0, none⟩)] W fun e w' => e = .returned (.agg #[.int .i64 2, .string ⟨#[]⟩, .int .u16 (n : Nat)]) ∧ Below W.heap.size W w' := fun W h1 h2 => by
    have := here_any rb lv L i (48 - o) W (hE.t.keep (keep_bel h1)) hi hE.l h2
    rw [ht, Option.getD_some] at this
    exact this
  have iw : IntKind.i64.wrap ((i : Int) + 1) = (i : Int) + 1 := IntWalk.i64_in _ (by have := hE.l; omega)
  have HP := Lib.hid hp2
  have HP3 := Lib.hid hp3
  have HbX := Lib.hid (below_heap hY (heap_alloc_new w zero25))
  have HX := Lib.hid hXY
  have HB := Lib.hid (hB.trans (hXY.mono hB.size))
  have HD := Lib.hid hd3
  have hbb := hE.b
  skip
  clear hp2 hp3 hB hE hX hY hXY hd hR hpass ht hd3
  go_enter Tryz.func137, Tryz.ntmps137
  go_upto_region 7 with (first
    | (go_at_call 94; (with_reducible refine HQ.out.mono ?_); rintro _ w2 ⟨rfl, hR2, hA2⟩
       have HR2 := Lib.hid hR2
       have HA2 := Lib.hid hA2
       have HB2 := Lib.hid (HB.out.trans (hA2.below hbb HB.out.size))
       clear hR2 hA2)
    | (go_at_call 94; refine (HP.out w2 HB2.out HR2.out).mono ?_; rintro _ w3 ⟨rfl, hR3, hA3⟩
       have HG := Lib.hid (hA3.heap (show w.heap.size ≠ rb by omega) (below_heap (box_below w2 _) (HA2.out.heap (show w.heap.size ≠ rb by omega) HbX.out)))
       have HA3 := Lib.hid (HA2.out.trans ((Ap.of (box_below w2 _)).trans hA3))
       have HB3 := Lib.hid (HB.out.trans (HA3.out.below hbb HB.out.size))
       have HR3 := Lib.hid hR3
       clear hR3 hA3)
    | (go_at_call 104; refine (HP3.out w3 HB3.out HR3.out).mono ?_; rintro _ w4 ⟨rfl, hB4⟩
       have HG4 := Lib.hid (below_heap hB4 HG.out)
       have HA4 := Lib.hid (HA3.out.trans (Ap.of hB4))
       have HR4 := Lib.hid (below_heap hB4 HR3.out)
       obtain ⟨r0, r1, r2⟩ := cells_three (below_heap (box_below w4 (Obj.cells #[.int .i64 2, .string ⟨#[]⟩, .int .u16 (n : Nat)] 68)) HR4.out)
       have r3 := Lib.frozen_of_heap (below_heap (box_below w4 (Obj.cells #[.int .i64 2, .string ⟨#[]⟩, .int .u16 (n : Nat)] 68)) HR4.out) 1
       clear hB4))
  have hbt := box_below w4 (Obj.cells #[.int .i64 2, .string ⟨#[]⟩, .int .u16 (n : Nat)] 68)
  have hrs4 : w.heap.size < w4.heap.size := by have := HA4.out.size; simp at this; omega
  have hTb := (set_other (W := w4.alloc (Obj.cells #[.int .i64 2, .string ⟨#[]⟩, .int .u16 (n : Nat)] 68)) 1 (.int .i64 ((i : Int) + 1)) (show w4.heap.size ≠ rb by omega)).trans (heap_alloc_new w4 _)
  have hG := (set_other (W := w4.alloc (Obj.cells #[.int .i64 2, .string ⟨#[]⟩, .int .u16 (n : Nat)] 68)) 1 (.int .i64 ((i : Int) + 1)) (show w.heap.size ≠ rb by omega)).trans (below_heap hbt HG4.out)
  have hRS : RS rb lv (i + 1) (48 - o) ((w4.alloc (Obj.cells #[.int .i64 2, .string ⟨#[]⟩, .int .u16 (n : Nat)] 68)).setCell ⟨rb, 1, none⟩ (.int .i64 ((i : Int) + 1))) := set_heap (below_heap hbt HR4.out) 1 (.int .i64 ((i : Int) + 1))
  have hAp := (Ap.of HX.out).trans (HA4.out.trans ((Ap.of hbt).trans (Ap.set _ 1 (.int .i64 ((i : Int) + 1)))))
  obtain ⟨tb, htb⟩ : ∃ tb, w4.heap.size = tb := ⟨_, rfl⟩
  rw [htb] at hTb ⊢
  generalize (w4.alloc (Obj.cells #[.int .i64 2, .string ⟨#[]⟩, .int .u16 (n : Nat)] 68)).setCell ⟨rb, 1, none⟩ (.int .i64 ((i : Int) + 1)) = WT at hTb hG hRS hAp ⊢
  obtain ⟨t0, t1, t2⟩ := cells_three hTb
  obtain ⟨g0, g1, g2, g3⟩ := cells_box hG
  have f0 := Lib.frozen_of_heap hG 0
  have f1 := Lib.frozen_of_heap hG 1
  have f2 := Lib.frozen_of_heap hG 2
  have f3 := Lib.frozen_of_heap hG 3
  have HGT := Lib.hid hG
  have HRT := Lib.hid hRS
  have HAT := Lib.hid hAp
  have HTB := Lib.hid hTb
  clear hG hRS hAp hTb hbt r0 r1 r2 r3
  go_wp2
  refine finE rfl rfl rfl (four_set HGT.out _ _ _ _) rfl ?_
  exact post_ret (wX := w.alloc zero25) hrb (by simp) ⟨hn, 0, 0, none, 0, rfl, fun h => absurd h (by simp), by simp [ListP]⟩ HD.out (Nat.le_succ i) hi3 HRT.out HAT.out
set_option maxHeartbeats 4000000 in
set_option maxRecDepth 100000 in
theorem first_nam (o : Nat) (s : List UInt8) (u : List Tok) (hs : pnameL s = true) (hl : s.length < 140737488355328) : Runs 137 o (⟨1, s, 0⟩ :: u) (.nam s) u := by
  intro w0 rb lv L i w hE hB hd hi ho hR
  have hrb : rb < w.heap.size := (Array.getElem?_eq_some_iff.1 hR).1
  have hX := box_below w zero25
  have hY := box_below (w.alloc zero25) (Obj.cells #[.string ⟨#[40]⟩] 9)
  have hXY : Below w.heap.size w ((w.alloc zero25).alloc (Obj.cells #[.string ⟨#[40]⟩] 9)) := hX.trans (hY.mono hX.size)
  obtain ⟨ht, hd3, hi3⟩ := drop_some hd
  have hpass := pass_any rb lv _ L [[40]] i (48 - o) _ (hE.t.keep (keep_bel (hB.trans (hXY.mono hB.size)))) hi hE.l hE.s (below_heap hXY hR) (word_one (w.alloc zero25) [40]) (by simp)
  rw [ht, Option.getD_some, show passB [[40]] ⟨1, s, 0⟩ = false from pass_nam hs [40] (by decide)] at hpass
  simp only [Bool.false_eq_true, if_false, show (w.alloc zero25).heap.size = w.heap.size + 1 by simp] at hpass
  have HQ := Lib.hid hpass
  have hp2 : ∀ W, Below w0.heap.size w0 W → RS rb lv i (48 - o) W → Calls Tryz.prog 94 #[.pointer (some ⟨rb, 0, none⟩), .slice (some ⟨W.heap.size, 0, none⟩) 1 1] (W.alloc (Obj.cells #[.string ⟨#[36]⟩] 9)) fun e w' => e = .returned (.string ⟨#[]⟩) ∧ RS rb lv i (48 - o) w' ∧ Ap rb (W.alloc (Obj.cells #[.string ⟨#[36]⟩] 9)) w' := fun W h1 h2 => by
    have hb2 := box_below W (Obj.cells #[.string ⟨#[36]⟩] 9)
    have := pass_any rb lv _ L [[36]] i (48 - o) _ (hE.t.keep (keep_bel (h1.trans (hb2.mono h1.size)))) hi hE.l hE.s (below_heap hb2 h2) (word_one W [36]) (by simp)
    rw [ht, Option.getD_some, show passB [[36]] ⟨1, s, 0⟩ = false from pass_nam hs [36] (by decide)] at this
    simpa only [Bool.false_eq_true, if_false] using this
  have hp3 : ∀ W, Below w0.heap.size w0 W → RS rb lv i (48 - o) W → Calls Tryz.prog 104 #[.pointer (some ⟨rb, 0, none⟩)] W fun e w' => e = .returned (.agg #[.int .i64 1, .string ⟨s.toArray⟩, .int .u16 0]) ∧ Below W.heap.size W w' := fun W h1 h2 => by
    have := here_any rb lv L i (48 - o) W (hE.t.keep (keep_bel h1)) hi hE.l h2
    rw [ht, Option.getD_some] at this
    exact this
  have iw : IntKind.i64.wrap ((i : Int) + 1) = (i : Int) + 1 := IntWalk.i64_in _ (by have := hE.l; omega)
  have HP := Lib.hid hp2
  have HP3 := Lib.hid hp3
  have HbX := Lib.hid (below_heap hY (heap_alloc_new w zero25))
  have HX := Lib.hid hXY
  have HB := Lib.hid (hB.trans (hXY.mono hB.size))
  have HD := Lib.hid hd3
  have hbb := hE.b
  have hi53 := isname_any s hl; rw [hs] at hi53
  clear hp2 hp3 hB hE hX hY hXY hd hR hpass ht hd3
  go_enter Tryz.func137, Tryz.ntmps137
  go_upto_region 7 with (first
    | (go_at_call 94; (with_reducible refine HQ.out.mono ?_); rintro _ w2 ⟨rfl, hR2, hA2⟩
       have HR2 := Lib.hid hR2
       have HA2 := Lib.hid hA2
       have HB2 := Lib.hid (HB.out.trans (hA2.below hbb HB.out.size))
       clear hR2 hA2)
    | (go_at_call 94; refine (HP.out w2 HB2.out HR2.out).mono ?_; rintro _ w3 ⟨rfl, hR3, hA3⟩
       have HG := Lib.hid (hA3.heap (show w.heap.size ≠ rb by omega) (below_heap (box_below w2 _) (HA2.out.heap (show w.heap.size ≠ rb by omega) HbX.out)))
       have HA3 := Lib.hid (HA2.out.trans ((Ap.of (box_below w2 _)).trans hA3))
       have HB3 := Lib.hid (HB.out.trans (HA3.out.below hbb HB.out.size))
       have HR3 := Lib.hid hR3
       clear hR3 hA3)
    | (go_at_call 104; refine (HP3.out w3 HB3.out HR3.out).mono ?_; rintro _ w4 ⟨rfl, hB4⟩
       have HG4 := Lib.hid (below_heap hB4 HG.out)
       have HA4 := Lib.hid (HA3.out.trans (Ap.of hB4))
       have HR4 := Lib.hid (below_heap hB4 HR3.out)
       obtain ⟨r0, r1, r2⟩ := cells_three (below_heap (box_below w4 (Obj.cells #[.int .i64 1, .string ⟨s.toArray⟩, .int .u16 0] 68)) HR4.out)
       have r3 := Lib.frozen_of_heap (below_heap (box_below w4 (Obj.cells #[.int .i64 1, .string ⟨s.toArray⟩, .int .u16 0] 68)) HR4.out) 1
       clear hB4))
  have hbt := box_below w4 (Obj.cells #[.int .i64 1, .string ⟨s.toArray⟩, .int .u16 0] 68)
  have hrs4 : w.heap.size < w4.heap.size := by have := HA4.out.size; simp at this; omega
  have hTb := (set_other (W := w4.alloc (Obj.cells #[.int .i64 1, .string ⟨s.toArray⟩, .int .u16 0] 68)) 1 (.int .i64 ((i : Int) + 1)) (show w4.heap.size ≠ rb by omega)).trans (heap_alloc_new w4 _)
  have hG := (set_other (W := w4.alloc (Obj.cells #[.int .i64 1, .string ⟨s.toArray⟩, .int .u16 0] 68)) 1 (.int .i64 ((i : Int) + 1)) (show w.heap.size ≠ rb by omega)).trans (below_heap hbt HG4.out)
  have hRS : RS rb lv (i + 1) (48 - o) ((w4.alloc (Obj.cells #[.int .i64 1, .string ⟨s.toArray⟩, .int .u16 0] 68)).setCell ⟨rb, 1, none⟩ (.int .i64 ((i : Int) + 1))) := set_heap (below_heap hbt HR4.out) 1 (.int .i64 ((i : Int) + 1))
  have hAp := (Ap.of HX.out).trans (HA4.out.trans ((Ap.of hbt).trans (Ap.set _ 1 (.int .i64 ((i : Int) + 1)))))
  obtain ⟨tb, htb⟩ : ∃ tb, w4.heap.size = tb := ⟨_, rfl⟩
  rw [htb] at hTb ⊢
  generalize (w4.alloc (Obj.cells #[.int .i64 1, .string ⟨s.toArray⟩, .int .u16 0] 68)).setCell ⟨rb, 1, none⟩ (.int .i64 ((i : Int) + 1)) = WT at hTb hG hRS hAp ⊢
  obtain ⟨t0, t1, t2⟩ := cells_three hTb
  obtain ⟨g0, g1, g2, g3⟩ := cells_box hG
  have f0 := Lib.frozen_of_heap hG 0
  have f1 := Lib.frozen_of_heap hG 1
  have f2 := Lib.frozen_of_heap hG 2
  have f3 := Lib.frozen_of_heap hG 3
  have HGT := Lib.hid hG
  have HRT := Lib.hid hRS
  have HAT := Lib.hid hAp
  have HTB := Lib.hid hTb
  clear hG hRS hAp hTb hbt r0 r1 r2 r3
  go_wp2_with (first
    | (go_at_call 53; refine (hi53 _).mono ?_; rintro _ w7 ⟨rfl, hB7⟩
       obtain ⟨t0', t1', t2'⟩ := cells_three (below_heap hB7 HTB.out)
       obtain ⟨g0', g1', g2', g3'⟩ := cells_box (below_heap hB7 HGT.out)
       have f0' := Lib.frozen_of_heap (below_heap hB7 HGT.out) 0
       have f1' := Lib.frozen_of_heap (below_heap hB7 HGT.out) 1
       have f2' := Lib.frozen_of_heap (below_heap hB7 HGT.out) 2
       have f3' := Lib.frozen_of_heap (below_heap hB7 HGT.out) 3
       have HG7 := Lib.hid (below_heap hB7 HGT.out)
       have HR7 := Lib.hid (below_heap hB7 HRT.out)
       have HA7 := Lib.hid (HAT.out.trans (Ap.of hB7))))
  refine finE rfl rfl rfl (four_set HG7.out _ _ _ _) rfl ?_
  exact post_ret (wX := w.alloc zero25) hrb (by simp) ⟨by omega, 0, 0, none, 0, rfl, fun h => absurd h (by simp), by simp [ListP]⟩ HD.out (Nat.le_succ i) hi3 HR7.out HA7.out
set_option maxHeartbeats 4000000 in
set_option maxRecDepth 100000 in
theorem closed_any (o : Nat) (u : List Tok) (e : RE) (v' : List Tok) (hp : Runs 51 o u e (rpT :: v')) : Runs 138 o u e v' := by
  intro w0 rb lv L i w hE hB hd hi ho hR
  have hrb : rb < w.heap.size := (Array.getElem?_eq_some_iff.1 hR).1
  have hX := box_below w zero25
  have HbX := Lib.hid (heap_alloc_new w zero25)
  have HP := Lib.hid (hp w0 rb lv L i (w.alloc zero25) hE (hB.trans (hX.mono hB.size)) hd hi ho (below_heap hX hR))
  have hp2 : ∀ i1 W, i1 ≤ L.length → L.drop i1 = rpT :: v' → Below w0.heap.size w0 W → RS rb lv i1 (48 - o) W → Calls Tryz.prog 94 #[.pointer (some ⟨rb, 0, none⟩), .slice (some ⟨W.heap.size, 0, none⟩) 1 1] (W.alloc (Obj.cells #[.string ⟨#[41]⟩] 9)) fun e w' => e = .returned (.string ⟨#[41]⟩) ∧ RS rb lv (i1 + 1) (48 - o) w' ∧ Ap rb (W.alloc (Obj.cells #[.string ⟨#[41]⟩] 9)) w' := fun i1 W hi1 hd1 h1 h2 => by
    have hb2 := box_below W (Obj.cells #[.string ⟨#[41]⟩] 9)
    have := pass_any rb lv _ L [[41]] i1 (48 - o) _ (hE.t.keep (keep_bel (h1.trans (hb2.mono h1.size)))) hi1 hE.l hE.s (below_heap hb2 h2) (word_one W [41]) (by simp)
    rw [(drop_some hd1).1, Option.getD_some, show passB [[41]] rpT = true by decide] at this
    simpa only [if_true, show rpT.s = [41] from rfl] using this
  have HQ := Lib.hid hp2
  have HX := Lib.hid hX
  have HB := Lib.hid hB
  have hbb := hE.b
  clear hp hp2 hB hE hX hd hR
  go_enter Tryz.func138, Tryz.ntmps138
  go_upto_region 2 with (first
    | (go_at_call 51; refine HP.out.mono ?_; rintro _ w1 ⟨v, i1, rfl, hv, hd1, hii, hi1, hR1, hA1⟩
       have HV := Lib.hid hv
       obtain ⟨X, hX⟩ : ∃ X, toEx e = X := ⟨_, rfl⟩
       rw [hX] at hv
       obtain ⟨eo, en, es, el⟩ := X
       obtain ⟨hn1, b1, o1, sp1, c1, rfl, hsp1, hll1⟩ := hv
       obtain ⟨m, hm⟩ : ∃ m, el.length = m := ⟨_, rfl⟩
       rw [hm] at HV ⊢
       have HG := Lib.hid (hA1.heap (show w.heap.size ≠ rb by omega) HbX.out)
       obtain ⟨g0, g1, g2, g3⟩ := cells_box HG.out
       have f0 := Lib.frozen_of_heap HG.out 0
       have f1 := Lib.frozen_of_heap HG.out 1
       have f2 := Lib.frozen_of_heap HG.out 2
       have f3 := Lib.frozen_of_heap HG.out 3
       have HA1 := Lib.hid hA1
       have HD1 := Lib.hid hd1
       have HR1 := Lib.hid hR1
       clear hll1 hsp1 hX hm hR1 hA1 hd1))
  have hBe := box_below w1 (Obj.cells #[.string ⟨eo.toArray⟩, .int .u16 (en : Nat), .string ⟨es.toArray⟩, .slice sp1 m c1] 25)
  have hEb := heap_alloc_new w1 (Obj.cells #[.string ⟨eo.toArray⟩, .int .u16 (en : Nat), .string ⟨es.toArray⟩, .slice sp1 m c1] 25)
  have hR2 := below_heap hBe HR1.out
  have hG2 := below_heap hBe HG.out
  have hV2 := ExP.keep (Q := fun k => w.heap.size + 1 ≤ k) (Stand.below hBe) (fun k _ _ hk _ => by have : (w.alloc zero25).heap.size ≤ k := hk; simpa using this) HV.out
  have hA2 := (Ap.of HX.out).trans (HA1.out.trans (Ap.of hBe))
  have hs1 : w.heap.size + 1 ≤ w1.heap.size := by have := HA1.out.size; simpa using this
  obtain ⟨we, hwe⟩ : ∃ we, w1.heap.size = we := ⟨_, rfl⟩
  rw [hwe] at hEb hs1 ⊢
  generalize w1.alloc (Obj.cells #[.string ⟨eo.toArray⟩, .int .u16 (en : Nat), .string ⟨es.toArray⟩, .slice sp1 m c1] 25) = WA at hEb hR2 hG2 hV2 hA2 ⊢
  have HQ2 := Lib.hid (HQ.out i1 WA hi1 HD1.out (HB.out.trans (hA2.below hbb HB.out.size)) hR2)
  have HEb := Lib.hid hEb
  have HG2 := Lib.hid hG2
  have HV2 := Lib.hid hV2
  have HA2 := Lib.hid hA2
  clear hBe hR2 hG2 hV2 hA2 hEb g0 g1 g2 g3 f0 f1 f2 f3
  go_wp2_with (first
    | (go_at_call 94; refine HQ2.out.mono ?_; rintro _ w5 ⟨rfl, hR5, hA5'⟩
       have hA5 := (Ap.of (box_below WA (Obj.cells #[.string ⟨#[41]⟩] 9))).trans hA5'
       obtain ⟨e0, e1, e2, e3⟩ := cells_box (hA5.heap (show we ≠ rb by omega) HEb.out)
       have HG5 := Lib.hid (hA5.heap (show w.heap.size ≠ rb by omega) HG2.out)
       obtain ⟨g0, g1, g2, g3⟩ := cells_box HG5.out
       have f0 := Lib.frozen_of_heap HG5.out 0
       have f1 := Lib.frozen_of_heap HG5.out 1
       have f2 := Lib.frozen_of_heap HG5.out 2
       have f3 := Lib.frozen_of_heap HG5.out 3
       have HR5 := Lib.hid hR5
       have HA5 := Lib.hid hA5
       clear hR5 hA5 hA5'))
  refine finE rfl rfl rfl (four_set HG5.out _ _ _ _) rfl ?_
  obtain ⟨_, hd6, hi6⟩ := drop_some HD1.out
  refine post_ret (wX := w.alloc zero25) hrb (by simp) (ExP.keep (HA5.out.stand fun k hk => ?_) (fun k _ _ hk _ => ?_) HV2.out) hd6 (Nat.le_succ_of_le hii) hi6 HR5.out (HA2.out.trans HA5.out)
  · have : w.heap.size + 1 ≤ k := hk
    omega
  · have : w.heap.size + 1 ≤ k := hk
    show (w.alloc zero25).heap.size ≤ k
    simpa using this
end Go.Proofs.YtaoeipbofhkkcaaGreatDoor
namespace Go.Proofs.YtaoeipbofhkkcaaGreatDoor
open Go.RowKit Go.Proofs.NumMath

theorem name_short {s : List UInt8} (h : nameL s = true) : s.length ≤ 16 := by
  simp only [nameL, Bool.and_eq_true, decide_eq_true_eq] at h
  exact h.1.1.2
mutual
theorem rd_reads : ∀ {n o : Nat} {l : List Tok} {e : RE} {r : List Tok}, Rd n o l e r → Reads n o l e r
  | _, _, _, _, _, .num o n u hn => first_num o n u hn
  | _, _, _, _, _, .nam o s u hs => first_nam o s u hs (by
      have : nameL s = true := by simp only [Bool.and_eq_true] at hs; exact hs.1.1
      have := name_short this
      omega)
  | _, _, _, _, _, .here o u => first_here o u
  | _, _, _, _, _, .par o u e v h => first_par o u e v (closed_any o u e v (rd_reads h))
  | _, _, _, _, _, .neg o u a r h => on132_any o u a r (rd_reads h)
  | _, _, _, _, _, .inv o u a r h => on95_any o u a r (rd_reads h)
  | _, _, _, _, _, .pass6 o t u e r hf h => off132_any o t u e r hf (rd_reads h)
  | _, _, _, _, _, .pass3 o t u e r hf h => off95_any o t u e r hf (rd_reads h)
  | _, _, _, _, _, .row n o l e r x r' hn h k => by
    have h1 := rd_reads h
    have h2 := rl_reads k
    rcases hn with rfl | rfl | rfl | rfl
    · exact lev1_any o l e r x r' h1 h2
    · exact lev2_any o l e r x r' h1 h2
    · exact lev4_any o l e r x r' h1 h2
    · exact lev5_any o l e r x r' h1 h2
theorem rl_reads : ∀ {n o : Nat} {e : RE} {l : List Tok} {x : RE} {r' : List Tok}, Rl n o e l x r' → RlR n o e l x r'
  | _, _, _, _, _, _, .stop n o e l h => .stop e l h
  | _, _, _, _, _, _, .on n o e op u b r x r' hop h k => .on e op u b r x r' hop (rd_reads h) (rl_reads k)
end
theorem resE3 {fn : Func} {p q s k : Nat} {v0 v1 v2 v3 x y : Value} {tmps : Array Value} {W : World} (h : fn.results = #[.cell p 25, .tmp q, .tmp s]) (hp : tmps.getD p undef = .pointer (some ⟨k, 0, none⟩)) (hq : tmps.getD q undef = x) (hs : tmps.getD s undef = y)
    (k0 : W.cell? ⟨k, 0, none⟩ = some v0) (k1 : W.cell? ⟨k, 1, none⟩ = some v1) (k2 : W.cell? ⟨k, 2, none⟩ = some v2) (k3 : W.cell? ⟨k, 3, none⟩ = some v3) : (results fn tmps).run Tryz.prog W = .ok (.tuple #[.agg #[v0, v1, v2, v3], x, y]) W := by
  simp only [Array.getD_eq_getD_getElem?] at hp hq hs
  simp only [results, h]
  simp [hp, hq, hs, go_sem, k0, k1, k2, k3]
theorem finE3 {fn : Func} {R : Ending → World → Prop} {p q s k : Nat} {v0 v1 v2 v3 x y : Value} {t : TypeId} {a : Act} {W : World} (h : fn.results = #[.cell p 25, .tmp q, .tmp s]) (hp : a.tmps.getD p undef = .pointer (some ⟨k, 0, none⟩)) (hq : a.tmps.getD q undef = x) (hs : a.tmps.getD s undef = y)
    (hb : W.heap[k]? = some (.cells #[v0, v1, v2, v3] t (0, 0))) (hd : a.defers = []) (hR : R (.returned (.tuple #[.agg #[v0, v1, v2, v3], x, y])) W) : bodyPost Tryz.prog fn R .ret a W :=
  have ⟨k0, k1, k2, k3⟩ := cells_box hb
  bodyPost_ret (resE3 h hp hq hs k0 k1 k2 k3) hd hR
theorem four_below {B k : Nat} {a w : World} (h : Below B a w) (hk : B ≤ k) (x y z u : Value) : Below B a ((((w.setCell ⟨k, 0, none⟩ x).setCell ⟨k, 1, none⟩ y).setCell ⟨k, 2, none⟩ z).setCell ⟨k, 3, none⟩ u) :=
  (((h.setCell (p := ⟨k, 0, none⟩) hk _).setCell (p := ⟨k, 1, none⟩) hk _).setCell (p := ⟨k, 2, none⟩) hk _).setCell (p := ⟨k, 3, none⟩) hk _
theorem ExP.drew {P : Nat → Prop} {W : World} {v : Value} {e : Ex} (h : ExP P W v e) : ExP P W.drew v e := by
  have hs : Stand P W W.drew := fun k _ o u hc => hc
  exact ExP.keep hs (fun _ _ _ h _ => h) h
/-- what Parse leaves -/
def ParseOut (e : Ex) (n : Nat) (w : World) (x : Ending) (w' : World) : Prop := ∃ v, x = .returned (.tuple #[v, .int .i64 (n : Nat), .int .i64 0]) ∧ ExP (fun k => w.heap.size ≤ k) w' v e ∧ Below w.heap.size w w'
set_option maxHeartbeats 4000000 in
set_option maxRecDepth 100000 in
theorem pparse_any (lv : Value) (L : List Tok) (e : RE) (w : World) (hT : TokR w lv L) (hL : L.length < 140737488355328) (hs : ∀ t ∈ L, t.s.length < 140737488355328) (hr : Rd 1 48 L e []) (hx : shortX (toEx e) = true) (hd : rightX 1 (toEx e) = true) :
    Calls Tryz.prog 34 #[lv] w (ParseOut (toEx e) L.length w) := by
  obtain ⟨sp, ln, c, rfl⟩ : ∃ sp ln c, lv = .slice sp ln c := by obtain ⟨b, o, sp, c, h, _⟩ := hT; exact ⟨_, _, _, h⟩
  obtain ⟨lv, hlv⟩ : ∃ lv, Value.slice sp ln c = lv := ⟨_, rfl⟩
  have hE : Env w (w.heap.size + 1) (.slice sp ln c) L := ⟨Nat.le_succ _, hT, hL, hs⟩
  have hX := box_below w zero25
  have hY := box_below (w.alloc zero25) (Obj.cells #[.slice sp ln c, .int .i64 0, .int .i64 0] 85)
  have hbY := heap_alloc_new (w.alloc zero25) (Obj.cells #[.slice sp ln c, .int .i64 0, .int .i64 0] 85)
  rw [show (w.alloc zero25).heap.size = w.heap.size + 1 by simp] at hbY
  have HX := Lib.hid (hX.trans (hY.mono hX.size))
  have HP := Lib.hid (rd_reads hr w (w.heap.size + 1) (.slice sp ln c) L 0 ((w.alloc zero25).alloc (Obj.cells #[.slice sp ln c, .int .i64 0, .int .i64 0] 85)) hE HX.out rfl (by omega) (by omega) hbY)
  have HbX := Lib.hid (below_heap hY (heap_alloc_new w zero25))
  have hk : rightK (toEx e) = 0 := by simp [rightK, hd]
  have HR := Lib.hid (fun v W hv => pRight_any v (toEx e) W hx hv)
  rw [hk] at HR
  have HR' : Hid (∀ v W, ExV W v (toEx e) → Calls Tryz.prog 24 #[v] W fun r w' => r = .returned (.int .i64 0) ∧ Below W.heap.size W w') := HR
  clear hE hX hY hbY hT hlv HR hk hs hL
  go_enter Tryz.func34, Tryz.ntmps34
  go_upto_region 3 with (first
    | (go_at_call 51; refine HP.out.mono ?_; rintro _ w1 ⟨v, i1, rfl, hv, hd1, hii, hi1, hR1, hA1⟩
       have HV := Lib.hid hv
       obtain ⟨X, hX⟩ : ∃ X, toEx e = X := ⟨_, rfl⟩
       rw [hX] at hv
       obtain ⟨eo, en, es, el⟩ := X
       obtain ⟨hn1, b1, o1, sp1, c1, rfl, hsp1, hll1⟩ := hv
       obtain ⟨m, hm⟩ : ∃ m, el.length = m := ⟨_, rfl⟩
       rw [hm] at HV ⊢
       have HG := Lib.hid (hA1.heap (show w.heap.size ≠ w.heap.size + 1 by omega) HbX.out)
       have HA1 := Lib.hid hA1
       have HD1 := Lib.hid hd1
       have HR1 := Lib.hid hR1
       clear hll1 hsp1 hX hm hR1 hA1 hd1))
  have hBe := box_below w1 (Obj.cells #[.string ⟨eo.toArray⟩, .int .u16 (en : Nat), .string ⟨es.toArray⟩, .slice sp1 m c1] 25)
  have hEb := heap_alloc_new w1 (Obj.cells #[.string ⟨eo.toArray⟩, .int .u16 (en : Nat), .string ⟨es.toArray⟩, .slice sp1 m c1] 25)
  have hR2 := below_heap hBe HR1.out
  have hG2 := below_heap hBe HG.out
  have hV2 := ExP.keep (Q := fun k => w.heap.size + 1 ≤ k) (Stand.below hBe) (fun k _ _ hk _ => by have : ((w.alloc zero25).alloc (Obj.cells #[.slice sp ln c, .int .i64 0, .int .i64 0] 85)).heap.size ≤ k := hk; simp at this; omega) HV.out
  have hs1 : w.heap.size + 1 + 1 ≤ w1.heap.size := by have := HA1.out.size; simpa using this
  have hA2 := HX.out.trans ((HA1.out.below (B := w.heap.size) (Nat.le_succ _) (by simp; omega)).trans (hBe.mono (by omega)))
  have hend : i1 = L.length := by have := List.drop_eq_nil_iff.1 HD1.out; omega
  subst hend
  obtain ⟨we, hwe⟩ : ∃ we, w1.heap.size = we := ⟨_, rfl⟩
  rw [hwe] at hEb hs1 ⊢
  generalize w1.alloc (Obj.cells #[.string ⟨eo.toArray⟩, .int .u16 (en : Nat), .string ⟨es.toArray⟩, .slice sp1 m c1] 25) = WA at hEb hR2 hG2 hV2 hA2 ⊢
  obtain ⟨e0, e1, e2, e3⟩ := cells_box hEb
  have HRt := Lib.hid (HR'.out _ WA hV2.plain)
  have HEb := Lib.hid hEb
  have HG2 := Lib.hid hG2
  have HV2 := Lib.hid hV2
  have HA2 := Lib.hid hA2
  have HR2 := Lib.hid hR2
  clear hBe hR2 hG2 hV2 hA2 hEb
  go_upto_region 7 with (first
    | (go_at_call 24; refine HRt.out.mono ?_; rintro _ w5 ⟨rfl, hB5⟩
       have HB5 := Lib.hid hB5
       clear hB5))
  obtain ⟨d0, d1, d2, d3⟩ := cells_box (below_heap HB5.out HEb.out)
  obtain ⟨r0, r1, r2⟩ := cells_three (below_heap HB5.out HR2.out)
  have HG5 := Lib.hid (below_heap HB5.out HG2.out)
  obtain ⟨g0, g1, g2, g3⟩ := cells_box HG5.out
  have f0 := Lib.frozen_of_heap HG5.out 0
  have f1 := Lib.frozen_of_heap HG5.out 1
  have f2 := Lib.frozen_of_heap HG5.out 2
  have f3 := Lib.frozen_of_heap HG5.out 3
  clear e0 e1 e2 e3
  go_region
  all_goals
    go_wp2
    refine finE3 rfl rfl rfl rfl (show _ = some _ from four_set HG5.out (.string ⟨eo.toArray⟩) (.int .u16 (en : Nat)) (.string ⟨es.toArray⟩) (.slice sp1 m c1)) rfl ?_
    have hfin := ExP.keep (Q := fun k => w.heap.size ≤ k) (four_stand w5 w.heap.size (.string ⟨eo.toArray⟩) (.int .u16 (en : Nat)) (.string ⟨es.toArray⟩) (.slice sp1 m c1) fun k (hk : w.heap.size + 1 ≤ k) => by omega) (fun k _ _ (hk : w.heap.size + 1 ≤ k) _ => Nat.le_of_succ_le hk) (ExP.keep (Stand.below HB5.out) (fun _ _ _ h _ => h) HV2.out)
    refine ⟨_, rfl, hfin.drew, ?_⟩
    exact (four_below (HA2.out.trans (HB5.out.mono HA2.out.size)) (Nat.le_refl _) _ _ _ _).drew
/-- what All leaves -/
def AllOut (e : Ex) (w : World) (x : Ending) (w' : World) : Prop := ∃ v, x = .returned (.tuple #[v, .int .i64 0]) ∧ ExP (fun k => w.heap.size ≤ k) w' v e ∧ Below w.heap.size w w'
set_option maxHeartbeats 4000000 in
set_option maxRecDepth 100000 in
theorem pall_any (lv : Value) (L : List Tok) (e : RE) (w : World) (hT : TokR w lv L) (hL : L.length < 140737488355328) (hs : ∀ t ∈ L, t.s.length < 140737488355328) (hr : Rd 1 48 L e []) (hx : shortX (toEx e) = true) (hd : rightX 1 (toEx e) = true) :
    Calls Tryz.prog 16 #[lv] w (AllOut (toEx e) w) := by
  have hX := box_below w zero25
  have HbX := Lib.hid (heap_alloc_new w zero25)
  have HP := Lib.hid (pparse_any lv L e (w.alloc zero25) (hT.keep (keep_bel hX)) hL hs hr hx hd)
  have HX := Lib.hid hX
  obtain ⟨b, of, sp, c, rfl, hsp, hc⟩ := hT
  have hnl : ¬ (L.length : Int) < (L.length : Int) := by omega
  clear hsp hc hX hs hL
  go_enter Tryz.func16, Tryz.ntmps16
  go_upto_region 2 with (first
    | (go_at_call 34; refine HP.out.mono ?_; rintro _ w1 ⟨v, rfl, hv, hB1⟩
       have HV := Lib.hid hv
       obtain ⟨X, hX⟩ : ∃ X, toEx e = X := ⟨_, rfl⟩
       rw [hX] at hv
       obtain ⟨eo, en, es, el⟩ := X
       obtain ⟨hn1, b1, o1, sp1, c1, rfl, hsp1, hll1⟩ := hv
       obtain ⟨m, hm⟩ : ∃ m, el.length = m := ⟨_, rfl⟩
       rw [hm] at HV ⊢
       have HG := Lib.hid (below_heap hB1 HbX.out)
       have HB1 := Lib.hid hB1
       clear hll1 hsp1 hX hm hB1))
  have hBe := box_below w1 (Obj.cells #[.string ⟨eo.toArray⟩, .int .u16 (en : Nat), .string ⟨es.toArray⟩, .slice sp1 m c1] 25)
  have hEb := heap_alloc_new w1 (Obj.cells #[.string ⟨eo.toArray⟩, .int .u16 (en : Nat), .string ⟨es.toArray⟩, .slice sp1 m c1] 25)
  have hG2 := below_heap hBe HG.out
  have hV2 := ExP.keep (Q := fun k => w.heap.size + 1 ≤ k) (Stand.below hBe) (fun k _ _ hk _ => by have : (w.alloc zero25).heap.size ≤ k := hk; simpa using this) HV.out
  have hs1 : w.heap.size + 1 ≤ w1.heap.size := by have := HB1.out.size; simpa using this
  have hA2 := HX.out.trans ((HB1.out.mono HX.out.size).trans (hBe.mono (by omega)))
  obtain ⟨we, hwe⟩ : ∃ we, w1.heap.size = we := ⟨_, rfl⟩
  rw [hwe] at hEb hs1 ⊢
  generalize w1.alloc (Obj.cells #[.string ⟨eo.toArray⟩, .int .u16 (en : Nat), .string ⟨es.toArray⟩, .slice sp1 m c1] 25) = WA at hEb hG2 hV2 hA2 ⊢
  obtain ⟨e0, e1, e2, e3⟩ := cells_box hEb
  obtain ⟨g0, g1, g2, g3⟩ := cells_box hG2
  have f0 := Lib.frozen_of_heap hG2 0
  have f1 := Lib.frozen_of_heap hG2 1
  have f2 := Lib.frozen_of_heap hG2 2
  have f3 := Lib.frozen_of_heap hG2 3
  have HG2 := Lib.hid hG2
  have HV2 := Lib.hid hV2
  have HA2 := Lib.hid hA2
  clear hBe hG2 hV2 hA2 hEb
  go_wp2
  refine finE rfl rfl rfl (four_set HG2.out _ _ _ _) rfl ?_
  refine ⟨_, rfl, ExP.keep (four_stand WA w.heap.size _ _ _ _ fun k (hk : w.heap.size + 1 ≤ k) => by omega) (fun k _ _ (hk : w.heap.size + 1 ≤ k) _ => Nat.le_of_succ_le hk) HV2.out, four_below HA2.out (Nat.le_refl _) _ _ _ _⟩
end Go.Proofs.YtaoeipbofhkkcaaGreatDoor
namespace Go.Proofs.YtaoeipbofhkkcaaGreatDoor
open Go.RowKit Go.Proofs.NumMath

theorem par_len2 (c : Bool) (l : List Tok) : (par c l).length ≤ l.length + 2 := by
  unfold par; split
  · simp
  · omega
theorem tokR_nodes : ∀ (r : RE) (w : Nat), (tokR r w).length ≤ 3 * nodesX (toEx r)
  | .num n, w => by simp [tokR, toEx, nodesX, nodesS]
  | .nam s, w => by simp [tokR, toEx, nodesX, nodesS]
  | .here, w => by simp [tokR, toEx, nodesX, nodesS]
  | .un o a, w => by
    have := tokR_nodes a (rk1 o)
    have := par_len2 (decide (rk1 o < w)) (tok1 o :: tokR a (rk1 o))
    simp only [tokR, toEx, nodesX, nodesS, List.length_cons] at *
    omega
  | .bin o a b, w => by
    have := tokR_nodes a (rk2 o)
    have := tokR_nodes b (rk2 o + 1)
    have := par_len2 (decide (rk2 o < w)) (tokR a (rk2 o) ++ tok2 o :: tokR b (rk2 o + 1))
    simp only [tokR, toEx, nodesX, nodesS, List.length_append, List.length_cons] at *
    omega
theorem par_mem {c : Bool} {l : List Tok} {t : Tok} (h : t ∈ par c l) : t = lpT ∨ t = rpT ∨ t ∈ l := by
  unfold par at h
  split at h
  · rcases List.mem_cons.1 h with h | h
    · exact .inl h
    · rcases List.mem_append.1 h with h | h
      · exact .inr (.inr h)
      · exact .inr (.inl (by simpa using h))
  · exact .inr (.inr h)
theorem tokR_str : ∀ (r : RE), okR r = true → ∀ (w : Nat), ∀ t ∈ tokR r w, t.s.length ≤ 16
  | .num n, _, w, t, h => by
    simp only [tokR, List.mem_singleton] at h
    subst h; simp
  | .nam s, hk, w, t, h => by
    simp only [tokR, List.mem_singleton] at h
    subst h
    have : nameL s = true := by simp only [okR, Bool.and_eq_true] at hk; exact hk.1.1
    exact name_short this
  | .here, _, w, t, h => by
    simp only [tokR, List.mem_singleton] at h
    subst h; simp
  | .un o a, hk, w, t, h => by
    rw [tokR] at h
    rcases par_mem h with rfl | rfl | h
    · decide
    · decide
    · rcases List.mem_cons.1 h with rfl | h
      · cases o <;> decide
      · exact tokR_str a (by simpa [okR] using hk) _ t h
  | .bin o a b, hk, w, t, h => by
    have hab : okR a = true ∧ okR b = true := by simpa [okR] using hk
    rw [tokR] at h
    rcases par_mem h with rfl | rfl | h
    · decide
    · decide
    · rcases List.mem_append.1 h with h | h
      · exact tokR_str a hab.1 _ t h
      · rcases List.mem_cons.1 h with rfl | h
        · cases o <;> decide
        · exact tokR_str b hab.2 _ t h
/-- a line of a right expression's text, and all of its tokens -/
theorem ltext_any (r : RE) (hok : okR r = true) (hlen : (textR r 1).length ≤ 200) (m : Int) (w : World) (hm : MaxAt w m) : Calls Tryz.prog 15 #[.string ⟨(textR r 1).toArray⟩] w fun e w' =>
    ∃ g c n, e = .returned (.tuple #[.slice g n c, .int .i64 0]) ∧ TokR w' (.slice g n c) (tokR r 1) ∧ Below w.heap.size w w' := by
  refine (line_any ⟨(textR r 1).toArray⟩ (by rw [bsize]; omega) m w hm).mono ?_
  rintro e w' ⟨v, rfl, hown, hb⟩
  obtain ⟨e1, e2⟩ := lineL_ok (textR r 1) hlen (tokR r 1) (line_text r hok)
  have e1 : lineK (⟨(textR r 1).toArray⟩ : ByteArray).data.toList = 0 := e1
  have e2 : lineV (⟨(textR r 1).toArray⟩ : ByteArray).data.toList = tokR r 1 := e2
  rw [e2] at hown
  rw [e1]
  have ht := tokR_of_own hown rfl
  obtain ⟨b, o, sp, c, rfl, h⟩ := ht
  exact ⟨sp, c, _, rfl, ⟨b, o, sp, c, rfl, h⟩, hb⟩
/-- All of the tokens of a right expression -/
theorem alltext_any (r : RE) (hok : okR r = true) (hd : deepR r ≤ 24) (hn : nodesX (toEx r) ≤ 300) (hs : shortX (toEx r) = true) (lv : Value) (w : World) (hT : TokR w lv (tokR r 1)) : Calls Tryz.prog 16 #[lv] w (AllOut (toEx r) w) :=
  pall_any lv (tokR r 1) r w hT (by have := tokR_nodes r 1; omega) (fun t ht => by have := tokR_str r hok 1 t ht; omega) (rd_all r hok hd) hs (toEx_right r 1 hok (by omega))
set_option maxHeartbeats 4000000 in
set_option maxRecDepth 100000 in
theorem of_any (r : RE) (hok : okR r = true) (hd : deepR r ≤ 24) (hn : nodesX (toEx r) ≤ 300) (hs : shortX (toEx r) = true) (hlen : (textR r 1).length ≤ 200) (want : Nat) (hv : evalR 0 (fun _ => (0, 3)) r = (want, 0)) (m : Int) (w : World) (hm : MaxAt w m) (hT : Tab16 w) :
    Calls Tryz.prog 23 #[.string ⟨(textR r 1).toArray⟩, .int .u16 (want : Nat)] w fun e w' => e = .returned (.bool true) ∧ Below w.heap.size w w' := by
  have hL := ltext_any r hok hlen m w hm
  have hA := fun lv w h => alltext_any r hok hd hn hs lv w h
  have hrt := toEx_right r 1 hok (by omega)
  have hEv : ∀ v W, ExV W v (toEx r) → Calls Tryz.prog 10 #[v, .int .u16 0, .nilFunc] W fun e w' => e = .returned (.tuple #[.int .u16 (want : Nat), .int .i64 0]) ∧ Below W.heap.size W w' := fun v W hv' =>
    pEval_any 0 (by omega) (fun _ => (0, 3)) (fun _ => Nat.zero_le _) .nilFunc v (toEx r) (want, 0) W hs hv' (.inl rfl) (askAt_nil W) (.inr ⟨r, rfl, hok, hrt, hv.symm⟩)
  have hSh : ∀ v W, ExV W v (toEx r) → Tab16 W → Calls Tryz.prog 14 #[v] W fun e w' => e = .returned (.tuple #[.string ⟨(textR r 1).toArray⟩, .int .i64 0]) ∧ Below W.heap.size W w' := fun v W hv' hT' =>
    pShow_any v (toEx r) (textR r 1, 0) W hs hv' hT' (.inr ⟨r, rfl, hok, hrt, rfl⟩) (by show (textR r 1).length < 1000000; omega)
  obtain ⟨S, hS⟩ : ∃ S, (⟨(textR r 1).toArray⟩ : ByteArray) = S := ⟨_, rfl⟩
  rw [hS] at hL hSh ⊢
  have HL := Lib.hid hL
  have HA := Lib.hid hA
  have HE := Lib.hid hEv
  have HS := Lib.hid hSh
  have HT := Lib.hid hT
  clear hL hA hEv hSh hS hv hT hm
  go_enter Tryz.func23, Tryz.ntmps23
  go_wp2_with (first
    | (go_at_call 15; refine HL.out.mono ?_; rintro _ w1 ⟨g, c, n, rfl, hT1, hB1⟩
       have HT1 := Lib.hid hT1
       have HB1 := Lib.hid hB1
       clear hT1 hB1)
    | (go_at_call 16; refine (HA.out _ _ HT1.out).mono ?_; rintro _ w2 ⟨v, rfl, hv, hB2⟩
       have hv2 := hv.plain
       obtain ⟨X, hX⟩ : ∃ X, toEx r = X := ⟨_, rfl⟩
       have hv3 := hv2
       rw [hX] at hv3
       obtain ⟨eo, en, es, el⟩ := X
       obtain ⟨hn1, b1, o1, sp1, c1, rfl, hsp1, hll1⟩ := hv3
       obtain ⟨q, hq⟩ : ∃ q, el.length = q := ⟨_, rfl⟩
       rw [hq] at hv2 ⊢
       have HB2 := Lib.hid (HB1.out.trans (hB2.mono HB1.out.size))
       have HX2 := Lib.hid (box_below w2 (Obj.cells #[.string ⟨eo.toArray⟩, .int .u16 (en : Nat), .string ⟨es.toArray⟩, .slice sp1 q c1] 25))
       have HX2b := Lib.hid (heap_alloc_new w2 (Obj.cells #[.string ⟨eo.toArray⟩, .int .u16 (en : Nat), .string ⟨es.toArray⟩, .slice sp1 q c1] 25))
       have HB3 := Lib.hid (HB2.out.trans (HX2.out.mono HB2.out.size))
       have HV := Lib.hid (hv2.below HX2.out)
       clear hv hv2 hsp1 hll1 hX hq hB2)
    | (go_at_call 10; refine (HE.out _ _ HV.out).mono ?_; rintro _ w3 ⟨rfl, hB4⟩
       obtain ⟨e0, e1, e2, e3⟩ := cells_box (below_heap hB4 HX2b.out)
       have HB4 := Lib.hid (HB3.out.trans (hB4.mono HB3.out.size))
       have HV4 := Lib.hid (HV.out.below hB4)
       clear hB4)
    | (go_at_call 14; refine (HS.out _ _ HV4.out (HT.out.below HB4.out)).mono ?_; rintro _ w5 ⟨rfl, hB5⟩
       have HB5 := Lib.hid (HB4.out.trans (hB5.mono HB4.out.size))
       clear hB5))
  go_ret
  exact ⟨rfl, HB5.out⟩
def ex1 : RE := .bin .add (.num 1) (.bin .mul (.num 2) (.num 3))
def ex2 : RE := .bin .and (.un .inv (.num 0)) (.num 15)
def ex3 : RE := .bin .mul (.bin .add (.num 1) (.num 2)) (.num 3)
theorem ex1_text : textR ex1 1 = [49, 32, 43, 32, 50, 32, 42, 32, 51] := by decide
theorem show15 : showL 15 = [48, 70, 72] := by
  unfold showL hexL
  rw [digits_lt true 16 15 (by omega)]
  decide
theorem ex2_text : textR ex2 1 = [78, 79, 84, 32, 48, 32, 65, 78, 68, 32, 48, 70, 72] := by
  have h : textR (.num 15) 3 = [48, 70, 72] := show15
  have h0 : textR (.num 0) 3 = [48] := by decide
  show parT _ (parT _ ([78, 79, 84, 32] ++ textR (.num 0) 3) ++ [32] ++ txt2 .and ++ [32] ++ textR (.num 15) 3) = _
  rw [h, h0]
  decide
theorem ex3_text : textR ex3 1 = [40, 32, 49, 32, 43, 32, 50, 32, 41, 32, 42, 32, 51] := by decide
theorem of1 (m : Int) (w : World) (hm : MaxAt w m) (hT : Tab16 w) : Calls Tryz.prog 23 #[.string ⟨#[49, 32, 43, 32, 50, 32, 42, 32, 51]⟩, .int .u16 7] w fun e w' => e = .returned (.bool true) ∧ Below w.heap.size w w' := by
  have := of_any ex1 (by decide) (by decide) (by decide) (by decide) (by rw [ex1_text]; decide) 7 (by decide) m w hm hT
  rwa [ex1_text] at this
theorem of2 (m : Int) (w : World) (hm : MaxAt w m) (hT : Tab16 w) : Calls Tryz.prog 23 #[.string ⟨#[78, 79, 84, 32, 48, 32, 65, 78, 68, 32, 48, 70, 72]⟩, .int .u16 15] w fun e w' => e = .returned (.bool true) ∧ Below w.heap.size w w' := by
  have := of_any ex2 (by decide) (by decide) (by decide) (by decide) (by rw [ex2_text]; decide) 15 (by decide) m w hm hT
  rwa [ex2_text] at this
theorem of3 (m : Int) (w : World) (hm : MaxAt w m) (hT : Tab16 w) : Calls Tryz.prog 23 #[.string ⟨#[40, 32, 49, 32, 43, 32, 50, 32, 41, 32, 42, 32, 51]⟩, .int .u16 9] w fun e w' => e = .returned (.bool true) ∧ Below w.heap.size w w' := by
  have := of_any ex3 (by decide) (by decide) (by decide) (by decide) (by rw [ex3_text]; decide) 9 (by decide) m w hm hT
  rwa [ex3_text] at this
theorem alive5_any (m : Int) (w : World) (hm : MaxAt w m) (hT : Tab16 w) : Calls Tryz.prog 9 #[] w fun e w' => e = .returned (.bool true) ∧ Below w.heap.size w w' := by
  have h1 := of1 m w hm hT
  have HM := Lib.hid hm
  have HT := Lib.hid hT
  clear hm hT
  go_enter Tryz.func9, Tryz.ntmps9
  go_wp2_with (first
    | (go_at_call 23; (with_reducible refine h1.mono ?_); rintro _ w1 ⟨rfl, hB1⟩; have HB1 := Lib.hid hB1; clear hB1)
    | (go_at_call 23; (with_reducible refine (of2 m _ (HM.out.below HB1.out) (HT.out.below HB1.out)).mono ?_); rintro _ w2 ⟨rfl, hB2⟩; have HB2 := Lib.hid (HB1.out.trans (hB2.mono HB1.out.size)); clear hB2)
    | (go_at_call 23; (with_reducible refine (of3 m _ (HM.out.below HB2.out) (HT.out.below HB2.out)).mono ?_); rintro _ w3 ⟨rfl, hB3⟩; have HB3 := Lib.hid (HB2.out.trans (hB3.mono HB2.out.size)); clear hB3))
  go_ret
  exact ⟨rfl, HB3.out⟩
end Go.Proofs.YtaoeipbofhkkcaaGreatDoor
