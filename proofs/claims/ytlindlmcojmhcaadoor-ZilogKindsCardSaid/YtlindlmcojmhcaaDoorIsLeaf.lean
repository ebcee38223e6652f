/- What the program's forms of single groups of opcodes answer; the program's tables hold what its text says. -/
import Derived.Test.YtlindlmcojmhcaaDoorIsForm
import Derived.Deep.RegionWith
namespace Go.Proofs.YtlindlmcojmhcaaDoor
open Go.RowKit

/-- a table of texts, by its package-level variable -/
def TabAt (w : World) (g : Nat) (l : List (List UInt8)) : Prop := ∀ i, i < l.length → w.cell? ⟨g, i, none⟩ = some (.string ⟨(ix l i).toArray⟩)
theorem TabAt.keep {w w' : World} {g : Nat} {l : List (List UInt8)} (h : TabAt w g l) (hk : ∀ p u, w.cell? p = some u → w'.cell? p = some u) : TabAt w' g l := fun i hi => hk _ _ (h i hi)
structure Tabs (w : World) : Prop where
  regs : TabAt w 0 regsL
  pairs : TabAt w 2 pairsL
  conds : TabAt w 4 condsL
  recks : TabAt w 1 recksL
  numbs : TabAt w 5 numbsL
  turns : TabAt w 3 turnsL
theorem Tabs.keep {w w' : World} (h : Tabs w) (hk : ∀ p u, w.cell? p = some u → w'.cell? p = some u) : Tabs w' :=
  ⟨h.regs.keep hk, h.pairs.keep hk, h.conds.keep hk, h.recks.keep hk, h.numbs.keep hk, h.turns.keep hk⟩
theorem Tabs.below {w w' : World} (h : Tabs w) (hb : Below w.heap.size w w') : Tabs w' := h.keep (keep_below hb)
theorem Tabs.alloc {w : World} (h : Tabs w) (o : Obj) : Tabs (w.alloc o) := h.keep fun _ _ hu => cell_alloc o hu
theorem set_heap {W : World} {k : Nat} {cs : Array Value} {t : TypeId} {fr : Nat × Nat} (h : W.heap[k]? = some (.cells cs t fr)) (j : Nat) (v : Value) : (W.setCell ⟨k, j, none⟩ v).heap[k]? = some (.cells (cs.setIfInBounds j v) t fr) := by
  have hk := lt_of_block h
  simp [World.setCell, Array.getElem?_modify, h]
theorem four_set {W : World} {k : Nat} {u0 u1 u2 u3 : Value} {t : TypeId} {fr : Nat × Nat} (h : W.heap[k]? = some (.cells #[u0, u1, u2, u3] t fr)) (a b c d : Value) :
    ((((W.setCell ⟨k, 0, none⟩ a).setCell ⟨k, 1, none⟩ b).setCell ⟨k, 2, none⟩ c).setCell ⟨k, 3, none⟩ d).heap[k]? = some (.cells #[a, b, c, d] t fr) := set_heap (set_heap (set_heap (set_heap h 0 a) 1 b) 2 c) 3 d
theorem four {w : World} {k : Nat} {u0 u1 u2 u3 : Value} {t : TypeId} (h : w.heap[k]? = some (.cells #[u0, u1, u2, u3] t (0, 0))) :
    (w.cell? ⟨k, 0, none⟩ = some u0 ∧ w.cell? ⟨k, 1, none⟩ = some u1 ∧ w.cell? ⟨k, 2, none⟩ = some u2 ∧ w.cell? ⟨k, 3, none⟩ = some u3) ∧
    (w.frozen? ⟨k, 0, none⟩ = false ∧ w.frozen? ⟨k, 1, none⟩ = false ∧ w.frozen? ⟨k, 2, none⟩ = false ∧ w.frozen? ⟨k, 3, none⟩ = false) := by
  simp [World.cell?, World.frozen?, h]
theorem finS {fn : Func} {p : Nat} {u0 u1 u2 u3 v0 v1 v2 v3 : Value} {t : TypeId} {a : Act} {w W : World} (h : fn.results = #[.cell p 50]) (hp : a.tmps.getD p undef = .pointer (some ⟨w.heap.size, 0, none⟩))
    (hr : W.heap[w.heap.size]? = some (.cells #[u0, u1, u2, u3] t (0, 0))) (hB : Below w.heap.size w W) (hd : a.defers = []) :
    bodyPost Tryd.prog fn (fun e w' => e = .returned (.agg #[v0, v1, v2, v3]) ∧ Below w.heap.size w w') .ret a ((((W.setCell ⟨w.heap.size, 0, none⟩ v0).setCell ⟨w.heap.size, 1, none⟩ v1).setCell ⟨w.heap.size, 2, none⟩ v2).setCell ⟨w.heap.size, 3, none⟩ v3) :=
  finF h hp (four_set hr v0 v1 v2 v3) hd ⟨rfl, (((hB.setCell (p := ⟨w.heap.size, 0, none⟩) (Nat.le_refl _) _).setCell (p := ⟨w.heap.size, 1, none⟩) (Nat.le_refl _) _).setCell (p := ⟨w.heap.size, 2, none⟩) (Nat.le_refl _) _).setCell (p := ⟨w.heap.size, 3, none⟩) (Nat.le_refl _) _⟩
abbrev box0 : Obj := .cells #[.string ⟨#[]⟩, .string ⟨#[]⟩, .string ⟨#[]⟩, .int .i64 0] 50
/-- the block of a function's result behind one call -/
theorem res_1 {w w1 : World} (hb : Below (w.alloc box0).heap.size (w.alloc box0) w1) : w1.heap[w.heap.size]? = some box0 ∧ Below w.heap.size w w1 :=
  ⟨at_below hb (at_new w _), below_new _ hb⟩
theorem res_2 {w w1 : World} {o : Obj} (hb : Below ((w.alloc box0).alloc o).heap.size ((w.alloc box0).alloc o) w1) : w1.heap[w.heap.size]? = some box0 ∧ Below w.heap.size w w1 :=
  ⟨at_below hb (at_old (at_new w _)), below_new _ (below_new _ hb)⟩
set_option maxHeartbeats 4000000 in
theorem mixed_any (op : Nat) (h : op < 256) (w : World) : Calls Tryd.prog 69 #[.int .u8 op] w fun e w' => e = .returned (formV (mixedL op)) ∧ Below w.heap.size w w' := by
  have HM := Lib.hid (middle_any op h)
  unfold mixedL
  obtain ⟨j, hj⟩ : ∃ j, op / 8 % 8 = j := ⟨_, rfl⟩
  have hj8 : j < 8 := by omega
  rw [hj] at HM ⊢
  match j, hj8 with
  | 0, _ =>
    go_enter Tryd.func69, Tryd.ntmps69
    go_wp2_with (first
      | (go_at_call 41; refine (HM.out _).mono ?_; rintro _ _ ⟨rfl, rfl⟩)
      | (go_at_call 56; refine (formed1 [74, 77, 80] d16L (at_new2 w _ _)).mono ?_; rintro _ w1 ⟨rfl, hb1⟩; obtain ⟨hr1, hB⟩ := res_2 hb1; obtain ⟨⟨k0, k1, k2, k3⟩, ⟨f0, f1, f2, f3⟩⟩ := four hr1; have HB := Lib.hid hB; have HR := Lib.hid hr1; clear hr1 hB hb1))
    exact finS rfl rfl HR.out HB.out rfl
  | 1, _ =>
    go_enter Tryd.func69, Tryd.ntmps69
    go_wp2_with (first
      | (go_at_call 41; refine (HM.out _).mono ?_; rintro _ _ ⟨rfl, rfl⟩))
    exact finF rfl rfl (at_new _ _) rfl ⟨rfl, box_below _ _⟩
  | 2, _ =>
    go_enter Tryd.func69, Tryd.ntmps69
    go_wp2_with (first
      | (go_at_call 41; refine (HM.out _).mono ?_; rintro _ _ ⟨rfl, rfl⟩)
      | (go_at_call 56; refine (formed1 [79, 85, 84] d8L (at_new2 w _ _)).mono ?_; rintro _ w1 ⟨rfl, hb1⟩; obtain ⟨hr1, hB⟩ := res_2 hb1; obtain ⟨⟨k0, k1, k2, k3⟩, ⟨f0, f1, f2, f3⟩⟩ := four hr1; have HB := Lib.hid hB; have HR := Lib.hid hr1; clear hr1 hB hb1))
    exact finS rfl rfl HR.out HB.out rfl
  | 3, _ =>
    go_enter Tryd.func69, Tryd.ntmps69
    go_wp2_with (first
      | (go_at_call 41; refine (HM.out _).mono ?_; rintro _ _ ⟨rfl, rfl⟩)
      | (go_at_call 56; refine (formed1 [73, 78] d8L (at_new2 w _ _)).mono ?_; rintro _ w1 ⟨rfl, hb1⟩; obtain ⟨hr1, hB⟩ := res_2 hb1; obtain ⟨⟨k0, k1, k2, k3⟩, ⟨f0, f1, f2, f3⟩⟩ := four hr1; have HB := Lib.hid hB; have HR := Lib.hid hr1; clear hr1 hB hb1))
    exact finS rfl rfl HR.out HB.out rfl
  | 4, _ =>
    go_enter Tryd.func69, Tryd.ntmps69
    go_wp2_with (first
      | (go_at_call 41; refine (HM.out _).mono ?_; rintro _ _ ⟨rfl, rfl⟩)
      | (go_at_call 56; refine (formed0 [88, 84, 72, 76] _).mono ?_; rintro _ w1 ⟨rfl, hb1⟩; obtain ⟨hr1, hB⟩ := res_1 hb1; obtain ⟨⟨k0, k1, k2, k3⟩, ⟨f0, f1, f2, f3⟩⟩ := four hr1; have HB := Lib.hid hB; have HR := Lib.hid hr1; clear hr1 hB hb1))
    exact finS rfl rfl HR.out HB.out rfl
  | 5, _ =>
    go_enter Tryd.func69, Tryd.ntmps69
    go_wp2_with (first
      | (go_at_call 41; refine (HM.out _).mono ?_; rintro _ _ ⟨rfl, rfl⟩)
      | (go_at_call 56; refine (formed0 [88, 67, 72, 71] _).mono ?_; rintro _ w1 ⟨rfl, hb1⟩; obtain ⟨hr1, hB⟩ := res_1 hb1; obtain ⟨⟨k0, k1, k2, k3⟩, ⟨f0, f1, f2, f3⟩⟩ := four hr1; have HB := Lib.hid hB; have HR := Lib.hid hr1; clear hr1 hB hb1))
    exact finS rfl rfl HR.out HB.out rfl
  | 6, _ =>
    go_enter Tryd.func69, Tryd.ntmps69
    go_wp2_with (first
      | (go_at_call 41; refine (HM.out _).mono ?_; rintro _ _ ⟨rfl, rfl⟩)
      | (go_at_call 56; refine (formed0 [68, 73] _).mono ?_; rintro _ w1 ⟨rfl, hb1⟩; obtain ⟨hr1, hB⟩ := res_1 hb1; obtain ⟨⟨k0, k1, k2, k3⟩, ⟨f0, f1, f2, f3⟩⟩ := four hr1; have HB := Lib.hid hB; have HR := Lib.hid hr1; clear hr1 hB hb1))
    exact finS rfl rfl HR.out HB.out rfl
  | 7, _ =>
    go_enter Tryd.func69, Tryd.ntmps69
    go_wp2_with (first
      | (go_at_call 41; refine (HM.out _).mono ?_; rintro _ _ ⟨rfl, rfl⟩)
      | (go_at_call 56; refine (formed0 [69, 73] _).mono ?_; rintro _ w1 ⟨rfl, hb1⟩; obtain ⟨hr1, hB⟩ := res_1 hb1; obtain ⟨⟨k0, k1, k2, k3⟩, ⟨f0, f1, f2, f3⟩⟩ := four hr1; have HB := Lib.hid hB; have HR := Lib.hid hr1; clear hr1 hB hb1))
    exact finS rfl rfl HR.out HB.out rfl
set_option maxHeartbeats 4000000 in
theorem leap_any (op : Nat) (h : op < 256) (w : World) : Calls Tryd.prog 67 #[.int .u8 op] w fun e w' => e = .returned (formV (leapL op)) ∧ Below w.heap.size w w' := by
  have HH := Lib.hid (high_any op h)
  unfold leapL
  obtain ⟨j, hj⟩ : ∃ j, op / 16 % 4 = j := ⟨_, rfl⟩
  have hj8 : j < 4 := by omega
  rw [hj] at HH ⊢
  match j, hj8 with
  | 0, _ =>
    go_enter Tryd.func67, Tryd.ntmps67
    go_wp2_with (first
      | (go_at_call 64; refine (HH.out _).mono ?_; rintro _ _ ⟨rfl, rfl⟩)
      | (go_at_call 56; refine (formed0 [82, 69, 84] _).mono ?_; rintro _ w1 ⟨rfl, hb1⟩; obtain ⟨hr1, hB⟩ := res_1 hb1; obtain ⟨⟨k0, k1, k2, k3⟩, ⟨f0, f1, f2, f3⟩⟩ := four hr1; have HB := Lib.hid hB; have HR := Lib.hid hr1; clear hr1 hB hb1))
    exact finS rfl rfl HR.out HB.out rfl
  | 1, _ =>
    go_enter Tryd.func67, Tryd.ntmps67
    go_wp2_with (first
      | (go_at_call 64; refine (HH.out _).mono ?_; rintro _ _ ⟨rfl, rfl⟩))
    exact finF rfl rfl (at_new _ _) rfl ⟨rfl, box_below _ _⟩
  | 2, _ =>
    go_enter Tryd.func67, Tryd.ntmps67
    go_wp2_with (first
      | (go_at_call 64; refine (HH.out _).mono ?_; rintro _ _ ⟨rfl, rfl⟩)
      | (go_at_call 56; refine (formed0 [80, 67, 72, 76] _).mono ?_; rintro _ w1 ⟨rfl, hb1⟩; obtain ⟨hr1, hB⟩ := res_1 hb1; obtain ⟨⟨k0, k1, k2, k3⟩, ⟨f0, f1, f2, f3⟩⟩ := four hr1; have HB := Lib.hid hB; have HR := Lib.hid hr1; clear hr1 hB hb1))
    exact finS rfl rfl HR.out HB.out rfl
  | 3, _ =>
    go_enter Tryd.func67, Tryd.ntmps67
    go_wp2_with (first
      | (go_at_call 64; refine (HH.out _).mono ?_; rintro _ _ ⟨rfl, rfl⟩)
      | (go_at_call 56; refine (formed0 [83, 80, 72, 76] _).mono ?_; rintro _ w1 ⟨rfl, hb1⟩; obtain ⟨hr1, hB⟩ := res_1 hb1; obtain ⟨⟨k0, k1, k2, k3⟩, ⟨f0, f1, f2, f3⟩⟩ := four hr1; have HB := Lib.hid hB; have HR := Lib.hid hr1; clear hr1 hB hb1))
    exact finS rfl rfl HR.out HB.out rfl
set_option maxHeartbeats 4000000 in
theorem store_any (op : Nat) (h : op < 256) (w : World) (hT : Tabs w) : Calls Tryd.prog 66 #[.int .u8 op] w fun e w' => e = .returned (formV (storeL op)) ∧ Below w.heap.size w w' := by
  have HM := Lib.hid (middle_any op h)
  have HH := Lib.hid (high_any op h)
  unfold storeL
  have hp : op / 16 % 4 < 4 := by omega
  have HP := fun o => (hT.alloc o).pairs (op / 16 % 4) hp
  generalize hx : ix pairsL (op / 16 % 4) = x at HP
  clear hx hT
  obtain ⟨j, hj⟩ : ∃ j, op / 8 % 8 = j := ⟨_, rfl⟩
  have hj8 : j < 8 := by omega
  rw [hj] at HM ⊢
  match j, hj8 with
  | 0, _ =>
    go_enter Tryd.func66, Tryd.ntmps66
    go_wp2_with (first
      | (go_at_call 41; refine (HM.out _).mono ?_; rintro _ _ ⟨rfl, rfl⟩)
      | (go_at_call 64; refine (HH.out _).mono ?_; rintro _ _ ⟨rfl, rfl⟩)
      | (go_at_call 56; refine (formed1 [83, 84, 65, 88] x (at_new2 w _ _)).mono ?_; rintro _ w1 ⟨rfl, hb1⟩; obtain ⟨hr1, hB⟩ := res_2 hb1; obtain ⟨⟨k0, k1, k2, k3⟩, ⟨f0, f1, f2, f3⟩⟩ := four hr1; have HB := Lib.hid hB; have HR := Lib.hid hr1; clear hr1 hB hb1))
    exact finS rfl rfl HR.out HB.out rfl
  | 1, _ =>
    go_enter Tryd.func66, Tryd.ntmps66
    go_wp2_with (first
      | (go_at_call 41; refine (HM.out _).mono ?_; rintro _ _ ⟨rfl, rfl⟩)
      | (go_at_call 64; refine (HH.out _).mono ?_; rintro _ _ ⟨rfl, rfl⟩)
      | (go_at_call 56; refine (formed1 [76, 68, 65, 88] x (at_new2 w _ _)).mono ?_; rintro _ w1 ⟨rfl, hb1⟩; obtain ⟨hr1, hB⟩ := res_2 hb1; obtain ⟨⟨k0, k1, k2, k3⟩, ⟨f0, f1, f2, f3⟩⟩ := four hr1; have HB := Lib.hid hB; have HR := Lib.hid hr1; clear hr1 hB hb1))
    exact finS rfl rfl HR.out HB.out rfl
  | 2, _ =>
    go_enter Tryd.func66, Tryd.ntmps66
    go_wp2_with (first
      | (go_at_call 41; refine (HM.out _).mono ?_; rintro _ _ ⟨rfl, rfl⟩)
      | (go_at_call 64; refine (HH.out _).mono ?_; rintro _ _ ⟨rfl, rfl⟩)
      | (go_at_call 56; refine (formed1 [83, 84, 65, 88] x (at_new2 w _ _)).mono ?_; rintro _ w1 ⟨rfl, hb1⟩; obtain ⟨hr1, hB⟩ := res_2 hb1; obtain ⟨⟨k0, k1, k2, k3⟩, ⟨f0, f1, f2, f3⟩⟩ := four hr1; have HB := Lib.hid hB; have HR := Lib.hid hr1; clear hr1 hB hb1))
    exact finS rfl rfl HR.out HB.out rfl
  | 3, _ =>
    go_enter Tryd.func66, Tryd.ntmps66
    go_wp2_with (first
      | (go_at_call 41; refine (HM.out _).mono ?_; rintro _ _ ⟨rfl, rfl⟩)
      | (go_at_call 64; refine (HH.out _).mono ?_; rintro _ _ ⟨rfl, rfl⟩)
      | (go_at_call 56; refine (formed1 [76, 68, 65, 88] x (at_new2 w _ _)).mono ?_; rintro _ w1 ⟨rfl, hb1⟩; obtain ⟨hr1, hB⟩ := res_2 hb1; obtain ⟨⟨k0, k1, k2, k3⟩, ⟨f0, f1, f2, f3⟩⟩ := four hr1; have HB := Lib.hid hB; have HR := Lib.hid hr1; clear hr1 hB hb1))
    exact finS rfl rfl HR.out HB.out rfl
  | 4, _ =>
    go_enter Tryd.func66, Tryd.ntmps66
    go_wp2_with (first
      | (go_at_call 41; refine (HM.out _).mono ?_; rintro _ _ ⟨rfl, rfl⟩)
      | (go_at_call 64; refine (HH.out _).mono ?_; rintro _ _ ⟨rfl, rfl⟩)
      | (go_at_call 56; refine (formed1 [83, 72, 76, 68] d16L (at_new2 w _ _)).mono ?_; rintro _ w1 ⟨rfl, hb1⟩; obtain ⟨hr1, hB⟩ := res_2 hb1; obtain ⟨⟨k0, k1, k2, k3⟩, ⟨f0, f1, f2, f3⟩⟩ := four hr1; have HB := Lib.hid hB; have HR := Lib.hid hr1; clear hr1 hB hb1))
    exact finS rfl rfl HR.out HB.out rfl
  | 5, _ =>
    go_enter Tryd.func66, Tryd.ntmps66
    go_wp2_with (first
      | (go_at_call 41; refine (HM.out _).mono ?_; rintro _ _ ⟨rfl, rfl⟩)
      | (go_at_call 64; refine (HH.out _).mono ?_; rintro _ _ ⟨rfl, rfl⟩)
      | (go_at_call 56; refine (formed1 [76, 72, 76, 68] d16L (at_new2 w _ _)).mono ?_; rintro _ w1 ⟨rfl, hb1⟩; obtain ⟨hr1, hB⟩ := res_2 hb1; obtain ⟨⟨k0, k1, k2, k3⟩, ⟨f0, f1, f2, f3⟩⟩ := four hr1; have HB := Lib.hid hB; have HR := Lib.hid hr1; clear hr1 hB hb1))
    exact finS rfl rfl HR.out HB.out rfl
  | 6, _ =>
    go_enter Tryd.func66, Tryd.ntmps66
    go_wp2_with (first
      | (go_at_call 41; refine (HM.out _).mono ?_; rintro _ _ ⟨rfl, rfl⟩)
      | (go_at_call 64; refine (HH.out _).mono ?_; rintro _ _ ⟨rfl, rfl⟩)
      | (go_at_call 56; refine (formed1 [83, 84, 65] d16L (at_new2 w _ _)).mono ?_; rintro _ w1 ⟨rfl, hb1⟩; obtain ⟨hr1, hB⟩ := res_2 hb1; obtain ⟨⟨k0, k1, k2, k3⟩, ⟨f0, f1, f2, f3⟩⟩ := four hr1; have HB := Lib.hid hB; have HR := Lib.hid hr1; clear hr1 hB hb1))
    exact finS rfl rfl HR.out HB.out rfl
  | 7, _ =>
    go_enter Tryd.func66, Tryd.ntmps66
    go_wp2_with (first
      | (go_at_call 41; refine (HM.out _).mono ?_; rintro _ _ ⟨rfl, rfl⟩)
      | (go_at_call 64; refine (HH.out _).mono ?_; rintro _ _ ⟨rfl, rfl⟩)
      | (go_at_call 56; refine (formed1 [76, 68, 65] d16L (at_new2 w _ _)).mono ?_; rintro _ w1 ⟨rfl, hb1⟩; obtain ⟨hr1, hB⟩ := res_2 hb1; obtain ⟨⟨k0, k1, k2, k3⟩, ⟨f0, f1, f2, f3⟩⟩ := four hr1; have HB := Lib.hid hB; have HR := Lib.hid hr1; clear hr1 hB hb1))
    exact finS rfl rfl HR.out HB.out rfl
theorem stacked_any (op : Nat) (h : op < 256) (w : World) (hT : Tabs w) : Calls Tryd.prog 68 #[.int .u8 op] w fun e w' => e = .returned (.string ⟨(stackedL op).toArray⟩) ∧ w' = w := by
  have HH := Lib.hid (high_any op h)
  unfold stackedL
  have hp : op / 16 % 4 < 4 := by omega
  have HP := hT.pairs (op / 16 % 4) hp
  generalize hx : ix pairsL (op / 16 % 4) = x at HP
  clear hx hT
  by_cases h3 : op / 16 % 4 = 3
  · rw [if_pos h3]
    rw [h3] at HH
    go_enter Tryd.func68, Tryd.ntmps68
    go_wp2_with (go_at_call 64; refine (HH.out _).mono ?_; rintro _ _ ⟨rfl, rfl⟩)
    go_ret
    exact ⟨rfl, rfl⟩
  · rw [if_neg h3]
    obtain ⟨j, hj⟩ : ∃ j, op / 16 % 4 = j := ⟨_, rfl⟩
    rw [hj] at HH HP hp h3
    have hb : ((j : Int) == 3) = false := by rw [beq_eq_false_iff_ne]; omega
    go_enter Tryd.func68, Tryd.ntmps68
    go_wp2_with (go_at_call 64; refine (HH.out _).mono ?_; rintro _ _ ⟨rfl, rfl⟩)
    go_ret
    exact ⟨rfl, rfl⟩
set_option maxHeartbeats 4000000 in
theorem push_any (op : Nat) (h : op < 256) (w : World) (hT : Tabs w) : Calls Tryd.prog 70 #[.int .u8 op] w fun e w' => e = .returned (formV (pushL op)) ∧ Below w.heap.size w w' := by
  have HH := Lib.hid (high_any op h)
  have HO := Lib.hid (odd_any op h)
  have HS := Lib.hid (stacked_any op h)
  have HT := Lib.hid hT
  clear hT
  unfold pushL
  generalize hx : stackedL op = x at HS
  clear hx
  cases ho : oddB op
  · rw [ho] at HO
    rw [if_pos rfl]
    go_enter Tryd.func70, Tryd.ntmps70
    go_wp2_with (first
      | (go_at_call 65; refine (HO.out _).mono ?_; rintro _ _ ⟨rfl, rfl⟩)
      | (go_at_call 68; refine (HS.out _ (HT.out.alloc _)).mono ?_; rintro _ _ ⟨rfl, rfl⟩)
      | (go_at_call 56; refine (formed1 [80, 85, 83, 72] x (at_new2 w _ _)).mono ?_; rintro _ w1 ⟨rfl, hb1⟩; obtain ⟨hr1, hB⟩ := res_2 hb1; obtain ⟨⟨k0, k1, k2, k3⟩, ⟨f0, f1, f2, f3⟩⟩ := four hr1; have HB := Lib.hid hB; have HR := Lib.hid hr1; clear hr1 hB hb1))
    exact finS rfl rfl HR.out HB.out rfl
  · rw [ho] at HO
    rw [if_neg (by decide)]
    by_cases h0 : op / 16 % 4 = 0
    · rw [if_pos h0]
      rw [h0] at HH
      go_enter Tryd.func70, Tryd.ntmps70
      go_wp2_with (first
        | (go_at_call 65; refine (HO.out _).mono ?_; rintro _ _ ⟨rfl, rfl⟩)
        | (go_at_call 64; refine (HH.out _).mono ?_; rintro _ _ ⟨rfl, rfl⟩)
        | (go_at_call 56; refine (formed1 [67, 65, 76, 76] d16L (at_new2 w _ _)).mono ?_; rintro _ w1 ⟨rfl, hb1⟩; obtain ⟨hr1, hB⟩ := res_2 hb1; obtain ⟨⟨k0, k1, k2, k3⟩, ⟨f0, f1, f2, f3⟩⟩ := four hr1; have HB := Lib.hid hB; have HR := Lib.hid hr1; clear hr1 hB hb1))
      exact finS rfl rfl HR.out HB.out rfl
    · rw [if_neg h0]
      obtain ⟨j, hj⟩ : ∃ j, op / 16 % 4 = j := ⟨_, rfl⟩
      rw [hj] at HH h0
      have hb : ((j : Int) == 0) = false := by rw [beq_eq_false_iff_ne]; omega
      go_enter Tryd.func70, Tryd.ntmps70
      go_wp2_with (first
        | (go_at_call 65; refine (HO.out _).mono ?_; rintro _ _ ⟨rfl, rfl⟩)
        | (go_at_call 64; refine (HH.out _).mono ?_; rintro _ _ ⟨rfl, rfl⟩))
      exact finF rfl rfl (at_new _ _) rfl ⟨rfl, box_below _ _⟩
end Go.Proofs.YtlindlmcojmhcaaDoor
