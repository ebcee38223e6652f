/- What the program's formed, middle, high and odd answer; no condition but that a form has at most two operands. -/
import Derived.Test.YtlindlmcojmhcaaDoorIsMath
import Derived.Laws.CopyOwn
import Derived.Laws.CopyRow
namespace Go.Proofs.YtlindlmcojmhcaaDoor
open Go.RowKit

/-- a form in memory -/
def formV (f : Fm) : Value := .agg #[.string ⟨f.1.toArray⟩, .string ⟨(ix f.2 0).toArray⟩, .string ⟨(ix f.2 1).toArray⟩, .int .i64 (f.2.length : Nat)]
theorem middle_any (op : Nat) (h : op < 256) (w : World) : Calls Tryd.prog 41 #[.int .u8 op] w fun e w' => e = .returned (.int .u8 (op / 8 % 8 : Nat)) ∧ w' = w := by
  go_enter Tryd.func41, Tryd.ntmps41
  go_wp2
  go_ret
  exact ⟨by simp, rfl⟩
theorem setRow_alloc (w : World) (cur cs : Array Value) (t : TypeId) : (w.alloc (.cells cur t)).setRow w.heap.size cs = w.alloc (.cells cs t) := by
  have h : (w.heap.push (Obj.cells cur t)).modify w.heap.size (fun | .cells _ elem frozen => .cells cs elem frozen | o => o) = w.heap.push (.cells cs t) := by
    apply Array.ext_getElem?
    intro i
    rw [Array.getElem?_modify, Array.getElem?_push, Array.getElem?_push]
    by_cases h : i = w.heap.size
    · subst h; simp
    · rw [if_neg (fun e => h e.symm), if_neg h, if_neg h]
  exact congrArg (fun x => ({ w with heap := x } : World)) h
theorem at_new (w : World) (o : Obj) : (w.alloc o).heap[w.heap.size]? = some o := heap_alloc_new w o
theorem at_old {w : World} {o o' : Obj} {k : Nat} (h : w.heap[k]? = some o') : (w.alloc o).heap[k]? = some o' := by
  have hk : k < w.heap.size := lt_of_block h
  rw [Below.heap_alloc w o k hk, h]
theorem at_below {w w1 : World} {o' : Obj} {k : Nat} (hb : Below w.heap.size w w1) (h : w.heap[k]? = some o') : w1.heap[k]? = some o' := (hb.block k (lt_of_block h)).trans h
theorem box_below (w : World) (o : Obj) : Below w.heap.size w (w.alloc o) := (Below.refl _ w).alloc (Nat.le_refl _) o
theorem below_new {w w1 : World} (o : Obj) (hb : Below (w.alloc o).heap.size (w.alloc o) w1) : Below w.heap.size w w1 :=
  ((Below.refl w.heap.size w).alloc (Nat.le_refl _) o).trans (hb.mono (by simp))
theorem below_step {w W w1 : World} (h : Below w.heap.size w W) (hb : Below W.heap.size W w1) : Below w.heap.size w w1 := h.trans (hb.mono h.size)
theorem cells_box {W : World} {k : Nat} {u0 u1 u2 u3 : Value} {t : TypeId} {fr : Nat × Nat} (h : W.heap[k]? = some (.cells #[u0, u1, u2, u3] t fr)) :
    W.cell? ⟨k, 0, none⟩ = some u0 ∧ W.cell? ⟨k, 1, none⟩ = some u1 ∧ W.cell? ⟨k, 2, none⟩ = some u2 ∧ W.cell? ⟨k, 3, none⟩ = some u3 := by simp [World.cell?, h]
theorem resF {fn : Func} {p k : Nat} {v0 v1 v2 v3 : Value} {tmps : Array Value} {W : World} (h : fn.results = #[.cell p 50]) (hp : tmps.getD p undef = .pointer (some ⟨k, 0, none⟩))
    (k0 : W.cell? ⟨k, 0, none⟩ = some v0) (k1 : W.cell? ⟨k, 1, none⟩ = some v1) (k2 : W.cell? ⟨k, 2, none⟩ = some v2) (k3 : W.cell? ⟨k, 3, none⟩ = some v3) : (results fn tmps).run Tryd.prog W = .ok (.agg #[v0, v1, v2, v3]) W := by
  simp only [Array.getD_eq_getD_getElem?] at hp
  simp only [results, h]
  simp [hp, go_sem, k0, k1, k2, k3]
theorem finF {fn : Func} {R : Ending → World → Prop} {p k : Nat} {v0 v1 v2 v3 : Value} {t : TypeId} {a : Act} {W : World} (h : fn.results = #[.cell p 50]) (hp : a.tmps.getD p undef = .pointer (some ⟨k, 0, none⟩))
    (hb : W.heap[k]? = some (.cells #[v0, v1, v2, v3] t (0, 0))) (hd : a.defers = []) (hR : R (.returned (.agg #[v0, v1, v2, v3])) W) : bodyPost Tryd.prog fn R .ret a W :=
  have ⟨k0, k1, k2, k3⟩ := cells_box hb
  bodyPost_ret (resF h hp k0 k1 k2 k3) hd hR
theorem at_new2 (w : World) (o1 o2 : Obj) : ((w.alloc o1).alloc o2).heap[w.heap.size + 1]? = some o2 := by
  have := at_new (w.alloc o1) o2
  rwa [show (w.alloc o1).heap.size = w.heap.size + 1 by simp] at this
theorem setRow_alloc2 (w : World) (o1 : Obj) (cur cs : Array Value) (t : TypeId) : ((w.alloc o1).alloc (.cells cur t)).setRow (w.heap.size + 1) cs = (w.alloc o1).alloc (.cells cs t) := by
  have := setRow_alloc (w.alloc o1) cur cs t
  rwa [show (w.alloc o1).heap.size = w.heap.size + 1 by simp] at this
theorem one_at {w : World} {b o : Nat} {x : List UInt8} (hx : w.cell? ⟨b, o, none⟩ = some (strV x)) (o1 o2 : Obj) : ∀ j v, [strV x][j]? = some v → ((w.alloc o1).alloc o2).cell? ((⟨b, o, none⟩ : Addr).add j) = some v := fun j v hj => by
  match j, hj with
  | 0, hj => simp at hj; subst hj; exact cell_alloc _ (cell_alloc _ (by simpa [Addr.add] using hx))
  | j + 1, hj => simp at hj
theorem two_at {w : World} {b o : Nat} {x y : List UInt8} (hx : w.cell? ⟨b, o, none⟩ = some (strV x)) (hy : w.cell? ⟨b, o + 1, none⟩ = some (strV y)) (o1 o2 : Obj) : ∀ j v, [strV x, strV y][j]? = some v → ((w.alloc o1).alloc o2).cell? ((⟨b, o, none⟩ : Addr).add j) = some v := fun j v hj => by
  match j, hj with
  | 0, hj => simp at hj; subst hj; exact cell_alloc _ (cell_alloc _ (by simpa [Addr.add] using hx))
  | 1, hj => simp at hj; subst hj; exact cell_alloc _ (cell_alloc _ (by simpa [Addr.add] using hy))
  | j + 2, hj => simp at hj
theorem formed_any (s : List UInt8) (l : List (List UInt8)) (hl : l.length ≤ 2) (v : Value) (w : World) (hv : TextR w v l) : Calls Tryd.prog 56 #[.string ⟨s.toArray⟩, v] w fun e w' => e = .returned (formV (s, l)) ∧ Below w.heap.size w w' := by
  obtain ⟨b, o, sp, c, rfl, hc, h2, h3⟩ := hv
  match l, hl with
  | [], _ =>
    go_enter Tryd.func56, Tryd.ntmps56
    go_wp2_with (refine wpList_copy_nothing rfl (.tmp 9) (.tmp 10) 24 24 rfl 9 Tryd.underlying24 (by kernel_rfl) _ _ _ _ _ _ rfl rfl (by rfl) ?_)
    refine finF rfl rfl (at_old (at_new _ _)) rfl ⟨rfl, ((Below.refl _ _).alloc (Nat.le_refl _) _).alloc (by simp) _⟩
  | [x], _ =>
    obtain rfl := h2 (by simp)
    have hx := h3 0 x rfl
    have HX := Lib.hid (one_at (o := o) hx)
    clear h3 hx h2
    go_enter Tryd.func56, Tryd.ntmps56
    go_wp2_with (with_reducible refine wpList_copy_own rfl (.tmp 9) (.tmp 10) 24 24 rfl 9 Tryd.underlying24 (by kernel_rfl) (w.heap.size + 1) 1 2 2 ⟨b, o, none⟩ 1 c rfl rfl _ _ (at_new2 w _ _) [strV x] rfl (HX.out _ _) (by simp) (by simp [strV, Value.oneCell']) ?_; rw [setRow_alloc2]; simp only [strV, List.take_succ_cons, List.take_zero, List.drop_succ_cons, List.drop_zero, List.cons_append, List.nil_append, List.length_cons, List.length_nil, Nat.reduceAdd])
    refine finF rfl rfl (at_old (at_new _ _)) rfl ⟨rfl, ((Below.refl _ _).alloc (Nat.le_refl _) _).alloc (by simp) _⟩
  | [x, y], _ =>
    obtain rfl := h2 (by simp)
    have hx := h3 0 x rfl
    have HX := Lib.hid (two_at (o := o) hx (h3 1 y rfl))
    clear h3 hx h2
    go_enter Tryd.func56, Tryd.ntmps56
    go_wp2_with (with_reducible refine wpList_copy_own rfl (.tmp 9) (.tmp 10) 24 24 rfl 9 Tryd.underlying24 (by kernel_rfl) (w.heap.size + 1) 1 2 2 ⟨b, o, none⟩ 2 c rfl rfl _ _ (at_new2 w _ _) [strV x, strV y] rfl (HX.out _ _) (by simp) (by simp [strV, Value.oneCell']) ?_; rw [setRow_alloc2]; simp only [strV, List.take_succ_cons, List.take_zero, List.drop_succ_cons, List.drop_zero, List.cons_append, List.nil_append, List.length_cons, List.length_nil, Nat.reduceAdd])
    refine finF rfl rfl (at_old (at_new _ _)) rfl ⟨rfl, ((Below.refl _ _).alloc (Nat.le_refl _) _).alloc (by simp) _⟩
theorem textR_one {W : World} {k c : Nat} {x : List UInt8} {t : TypeId} {fr : Nat × Nat} (h : W.heap[k]? = some (.cells #[.string ⟨x.toArray⟩] t fr)) (hc : 1 ≤ c) : TextR W (.slice (some ⟨k, 0, none⟩) 1 c) [x] := by
  refine ⟨k, 0, _, c, rfl, hc, fun _ => rfl, fun i y hy => ?_⟩
  match i, hy with
  | 0, hy => simp at hy; subst hy; simp [World.cell?, h, strV]
  | i + 1, hy => simp at hy
theorem textR_two {W : World} {k c : Nat} {x y : List UInt8} {t : TypeId} {fr : Nat × Nat} (h : W.heap[k]? = some (.cells #[.string ⟨x.toArray⟩, .string ⟨y.toArray⟩] t fr)) (hc : 2 ≤ c) : TextR W (.slice (some ⟨k, 0, none⟩) 2 c) [x, y] := by
  refine ⟨k, 0, _, c, rfl, hc, fun _ => rfl, fun i z hz => ?_⟩
  match i, hz with
  | 0, hz => simp at hz; subst hz; simp [World.cell?, h, strV]
  | 1, hz => simp at hz; subst hz; simp [World.cell?, h, strV]
  | i + 2, hz => simp at hz
theorem formed0 (s : List UInt8) (W : World) : Calls Tryd.prog 56 #[.string ⟨s.toArray⟩, .slice none 0 0] W fun e w' => e = .returned (.agg #[.string ⟨s.toArray⟩, .string ⟨#[]⟩, .string ⟨#[]⟩, .int .i64 0]) ∧ Below W.heap.size W w' :=
  formed_any s [] (by decide) _ W (textR_nil W)
theorem formed1 (s x : List UInt8) {W : World} {k : Nat} {t : TypeId} {fr : Nat × Nat} (h : W.heap[k]? = some (.cells #[.string ⟨x.toArray⟩] t fr)) : Calls Tryd.prog 56 #[.string ⟨s.toArray⟩, .slice (some ⟨k, 0, none⟩) 1 1] W fun e w' => e = .returned (.agg #[.string ⟨s.toArray⟩, .string ⟨x.toArray⟩, .string ⟨#[]⟩, .int .i64 1]) ∧ Below W.heap.size W w' :=
  formed_any s [x] (by simp) _ W (textR_one h (Nat.le_refl _))
theorem formed2 (s x y : List UInt8) {W : World} {k : Nat} {t : TypeId} {fr : Nat × Nat} (h : W.heap[k]? = some (.cells #[.string ⟨x.toArray⟩, .string ⟨y.toArray⟩] t fr)) : Calls Tryd.prog 56 #[.string ⟨s.toArray⟩, .slice (some ⟨k, 0, none⟩) 2 2] W fun e w' => e = .returned (.agg #[.string ⟨s.toArray⟩, .string ⟨x.toArray⟩, .string ⟨y.toArray⟩, .int .i64 2]) ∧ Below W.heap.size W w' :=
  formed_any s [x, y] (by simp) _ W (textR_two h (Nat.le_refl _))
theorem and3 {n : Nat} (h : n < 256) : bits .and .u8 (n : Int) 3 = ((n % 4 : Nat) : Int) :=
  of_decide_eq_true (List.all_eq_true.1 (show ((List.range 256).all fun (n : Nat) => decide (bits .and .u8 (n : Int) 3 = ((n % 4 : Nat) : Int))) = true by kernel_rfl) n (List.mem_range.2 h))
theorem and8 {n : Nat} (h : n < 256) : bits .and .u8 (n : Int) 8 = ((n / 8 % 2 * 8 : Nat) : Int) :=
  of_decide_eq_true (List.all_eq_true.1 (show ((List.range 256).all fun (n : Nat) => decide (bits .and .u8 (n : Int) 8 = ((n / 8 % 2 * 8 : Nat) : Int))) = true by kernel_rfl) n (List.mem_range.2 h))
theorem high_any (op : Nat) (h : op < 256) (w : World) : Calls Tryd.prog 64 #[.int .u8 op] w fun e w' => e = .returned (.int .u8 (op / 16 % 4 : Nat)) ∧ w' = w := by
  go_enter Tryd.func64, Tryd.ntmps64
  go_wp2
  go_ret
  refine ⟨?_, rfl⟩
  have := and3 (n := op / 16) (by omega)
  simpa using this
theorem odd_any (op : Nat) (h : op < 256) (w : World) : Calls Tryd.prog 65 #[.int .u8 op] w fun e w' => e = .returned (.bool (oddB op)) ∧ w' = w := by
  go_enter Tryd.func65, Tryd.ntmps65
  go_wp2
  go_ret
  refine ⟨?_, rfl⟩
  have h8 := and8 h
  simp only [Array.getD_eq_getD_getElem?, List.getElem?_toArray, List.getElem?_cons_succ, List.getElem?_cons_zero, Option.getD_some, h8]
  unfold oddB
  have : op / 8 % 2 = 0 ∨ op / 8 % 2 = 1 := by omega
  rcases this with e | e <;> rw [e] <;> rfl
end Go.Proofs.YtlindlmcojmhcaaDoor
