/- What Add, Sub and the like do when they are called, said of values and of the world; the bytes are between 0 and 255. -/
import Derived.Test.YtpkiobnnpjimaaaCalls
import Derived.OneCell
namespace Go.Proofs.Ytpkiobnnpjimaaa
open Go.RowKit Go.Proofs.WordMath

/-- A block of five cells, known whole: each cell of it, and that none is frozen. -/
theorem five {w : World} {k : Nat} {v0 v1 v2 v3 v4 : Value} {t : TypeId} (h : w.heap[k]? = some (.cells #[v0, v1, v2, v3, v4] t (0, 0))) :
    (w.cell? ⟨k, 0, none⟩ = some v0 ∧ w.cell? ⟨k, 1, none⟩ = some v1 ∧ w.cell? ⟨k, 2, none⟩ = some v2 ∧ w.cell? ⟨k, 3, none⟩ = some v3 ∧ w.cell? ⟨k, 4, none⟩ = some v4) ∧
    (w.frozen? ⟨k, 0, none⟩ = false ∧ w.frozen? ⟨k, 1, none⟩ = false ∧ w.frozen? ⟨k, 2, none⟩ = false ∧ w.frozen? ⟨k, 3, none⟩ = false ∧ w.frozen? ⟨k, 4, none⟩ = false) := by
  simp [World.cell?, World.frozen?, h]
theorem at_new (w : World) (o : Obj) : (w.alloc o).heap[w.heap.size]? = some o := heap_alloc_new w o
theorem at_new' {w : World} {o : Obj} {k : Nat} (hk : k = w.heap.size) : (w.alloc o).heap[k]? = some o := by rw [hk]; exact at_new w o
theorem at_old {w : World} {o o' : Obj} {k : Nat} (h : w.heap[k]? = some o') : (w.alloc o).heap[k]? = some o' := by
  have hk : k < w.heap.size := lt_of_block h
  rw [Below.heap_alloc w o k hk, h]
theorem at_below {w w1 : World} {o' : Obj} {k : Nat} (hb : Below w.heap.size w w1) (h : w.heap[k]? = some o') : w1.heap[k]? = some o' := (hb.block k (lt_of_block h)).trans h

theorem at_drew {w : World} {o : Obj} {k : Nat} (h : w.heap[k]? = some o) : w.drew.heap[k]? = some o := h
theorem set_at {w : World} {k : Nat} {c : Array Value} {t : TypeId} {fr : Nat × Nat} (h : w.heap[k]? = some (.cells c t fr)) (i : Nat) (v : Value) : (w.setCell ⟨k, i, none⟩ v).heap[k]? = some (.cells (c.setIfInBounds i v) t fr) := by
  have hk := lt_of_block h
  simp [World.setCell, Array.getElem?_modify, h]
theorem set5 {w : World} {k : Nat} {t : TypeId} {u0 u1 u2 u3 u4 v0 v1 v2 v3 v4 : Value} (h : w.heap[k]? = some (.cells #[u0, u1, u2, u3, u4] t (0, 0))) :
    (((((w.setCell ⟨k, 0, none⟩ v0).setCell ⟨k, 1, none⟩ v1).setCell ⟨k, 2, none⟩ v2).setCell ⟨k, 3, none⟩ v3).setCell ⟨k, 4, none⟩ v4).heap[k]? = some (.cells #[v0, v1, v2, v3, v4] t (0, 0)) := by
  exact set_at (set_at (set_at (set_at (set_at h 0 v0) 1 v1) 2 v2) 3 v3) 4 v4
theorem below_step {w W w1 : World} (h : Below w.heap.size w W) (hb : Below W.heap.size W w1) : Below w.heap.size w w1 := h.trans (hb.mono h.size)

theorem res25 {fn : Func} {r p k : Nat} {x v0 v1 v2 v3 v4 : Value} {tmps : Array Value} {W : World} (h : fn.results = #[.tmp r, .cell p 25]) (hr : tmps.getD r undef = x) (hp : tmps.getD p undef = .pointer (some ⟨k, 0, none⟩))
    (k0 : W.cell? ⟨k, 0, none⟩ = some v0) (k1 : W.cell? ⟨k, 1, none⟩ = some v1) (k2 : W.cell? ⟨k, 2, none⟩ = some v2) (k3 : W.cell? ⟨k, 3, none⟩ = some v3) (k4 : W.cell? ⟨k, 4, none⟩ = some v4) :
    (results fn tmps).run Try.prog W = .ok (.tuple #[x, .agg #[v0, v1, v2, v3, v4]]) W := by
  simp only [Array.getD_eq_getD_getElem?] at hr hp
  simp only [results, h]
  simp [hr, hp, go_sem, k0, k1, k2, k3, k4]
theorem fin25 {fn : Func} {R : Ending → World → Prop} {r p k : Nat} {x v0 v1 v2 v3 v4 : Value} {a : Act} {W : World} (h : fn.results = #[.tmp r, .cell p 25]) (hr : a.tmps.getD r undef = x) (hp : a.tmps.getD p undef = .pointer (some ⟨k, 0, none⟩))
    (k0 : W.cell? ⟨k, 0, none⟩ = some v0) (k1 : W.cell? ⟨k, 1, none⟩ = some v1) (k2 : W.cell? ⟨k, 2, none⟩ = some v2) (k3 : W.cell? ⟨k, 3, none⟩ = some v3) (k4 : W.cell? ⟨k, 4, none⟩ = some v4)
    (hd : a.defers = []) (hR : R (.returned (.tuple #[x, .agg #[v0, v1, v2, v3, v4]])) W) : bodyPost Try.prog fn R .ret a W :=
  bodyPost_ret (res25 h hr hp k0 k1 k2 k3 k4) hd hR
theorem fin25b {fn : Func} {R : Ending → World → Prop} {r p k : Nat} {t : TypeId} {x v0 v1 v2 v3 v4 : Value} {a : Act} {W : World} (h : fn.results = #[.tmp r, .cell p 25]) (hr : a.tmps.getD r undef = x) (hp : a.tmps.getD p undef = .pointer (some ⟨k, 0, none⟩))
    (hb : W.heap[k]? = some (.cells #[v0, v1, v2, v3, v4] t (0, 0))) (hd : a.defers = []) (hR : R (.returned (.tuple #[x, .agg #[v0, v1, v2, v3, v4]])) W) : bodyPost Try.prog fn R .ret a W :=
  have ⟨⟨k0, k1, k2, k3, k4⟩, _⟩ := five hb
  fin25 h hr hp k0 k1 k2 k3 k4 hd hR
theorem res23 {fn : Func} {r p k : Nat} {x v0 v1 v2 v3 v4 : Value} {tmps : Array Value} {W : World} (h : fn.results = #[.tmp r, .cell p 23]) (hr : tmps.getD r undef = x) (hp : tmps.getD p undef = .pointer (some ⟨k, 0, none⟩))
    (k0 : W.cell? ⟨k, 0, none⟩ = some v0) (k1 : W.cell? ⟨k, 1, none⟩ = some v1) (k2 : W.cell? ⟨k, 2, none⟩ = some v2) (k3 : W.cell? ⟨k, 3, none⟩ = some v3) (k4 : W.cell? ⟨k, 4, none⟩ = some v4) :
    (results fn tmps).run Try.prog W = .ok (.tuple #[x, .agg #[v0, v1, v2, v3, v4]]) W := by
  simp only [Array.getD_eq_getD_getElem?] at hr hp
  simp only [results, h]
  simp [hr, hp, go_sem, k0, k1, k2, k3, k4]
theorem fin23 {fn : Func} {R : Ending → World → Prop} {r p k : Nat} {x v0 v1 v2 v3 v4 : Value} {a : Act} {W : World} (h : fn.results = #[.tmp r, .cell p 23]) (hr : a.tmps.getD r undef = x) (hp : a.tmps.getD p undef = .pointer (some ⟨k, 0, none⟩))
    (k0 : W.cell? ⟨k, 0, none⟩ = some v0) (k1 : W.cell? ⟨k, 1, none⟩ = some v1) (k2 : W.cell? ⟨k, 2, none⟩ = some v2) (k3 : W.cell? ⟨k, 3, none⟩ = some v3) (k4 : W.cell? ⟨k, 4, none⟩ = some v4)
    (hd : a.defers = []) (hR : R (.returned (.tuple #[x, .agg #[v0, v1, v2, v3, v4]])) W) : bodyPost Try.prog fn R .ret a W :=
  bodyPost_ret (res23 h hr hp k0 k1 k2 k3 k4) hd hR

theorem fin23b {fn : Func} {R : Ending → World → Prop} {r p k : Nat} {t : TypeId} {x v0 v1 v2 v3 v4 : Value} {a : Act} {W : World} (h : fn.results = #[.tmp r, .cell p 23]) (hr : a.tmps.getD r undef = x) (hp : a.tmps.getD p undef = .pointer (some ⟨k, 0, none⟩))
    (hb : W.heap[k]? = some (.cells #[v0, v1, v2, v3, v4] t (0, 0))) (hd : a.defers = []) (hR : R (.returned (.tuple #[x, .agg #[v0, v1, v2, v3, v4]])) W) : bodyPost Try.prog fn R .ret a W :=
  have ⟨⟨k0, k1, k2, k3, k4⟩, _⟩ := five hb
  fin23 h hr hp k0 k1 k2 k3 k4 hd hR

set_option maxHeartbeats 1000000 in
theorem add_any (a b : Int) (c : Bool) (a0 : 0 ≤ a) (a1 : a ≤ 255) (b0 : 0 ≤ b) (b1 : b ≤ 255) (w : World) : Calls Try.prog 21 #[.int .u8 a, .int .u8 b, .bool c] w fun e w' => e = .returned (.tuple #[.int .u8 (lowB (a + b + bi c 1)), .agg #[.bool (sB (a + b + bi c 1)), .bool (zB (a + b + bi c 1)), .bool (decide (15 < a % 16 + b % 16 + bi c 1)), .bool (pB (a + b + bi c 1)), .bool (decide (255 < a + b + bi c 1))]]) ∧ Below w.heap.size w w' := by
    obtain ⟨c0, c1⟩ := bi01 c
    go_enter Try.func21, Try.ntmps21
    go_wp2_with (first
      | (go_at_call 47; refine (one_any _ _).mono ?_; rintro e w' ⟨rfl, rfl⟩)
      | (go_at_call 49; refine (low_any _ (by omega) (by omega) _).mono ?_; rintro e w' ⟨rfl, rfl⟩)
      | (go_at_call 46; go_call (sum3_any _ a b (bi c 1)) as e w' ⟨rfl, rfl⟩)
      | (go_at_call 46; go_call (sum3_any _ (a % 16) (b % 16) (bi c 1)) as e w' ⟨rfl, rfl⟩)
      | (go_at_call 48; refine (ofResult_any (a + b + bi c 1) _).mono ?_; rintro e w1 ⟨rfl, hb1⟩; obtain ⟨⟨_, _, _, _, _⟩, _, _, _, _, _⟩ := five (at_below hb1 (at_old (at_new _ _)))
         (have hz1 : w.heap.size < w1.heap.size := by have := hb1.size; simp at this; omega); (have hg1 : Below w.heap.size w w1 := below_step (by go_grown) hb1); clear hb1))
    go_region
    generalize hW2 : World.drew _ = W2
    have hB : Below w.heap.size w W2 := by subst hW2; go_grown
    have k0 : W2.cell? ⟨w.heap.size, 0, none⟩ = some (.bool (sB (a + b + bi c 1))) := by subst hW2; go_cell
    have k1 : W2.cell? ⟨w.heap.size, 1, none⟩ = some (.bool (zB (a + b + bi c 1))) := by subst hW2; go_cell
    have k2 : W2.cell? ⟨w.heap.size, 2, none⟩ = some (.bool (decide (15 < a % 16 + b % 16 + bi c 1))) := by subst hW2; go_cell
    have k3 : W2.cell? ⟨w.heap.size, 3, none⟩ = some (.bool (pB (a + b + bi c 1))) := by subst hW2; go_cell
    have k4 : W2.cell? ⟨w.heap.size, 4, none⟩ = some (.bool (decide (255 < a + b + bi c 1))) := by subst hW2; go_cell
    clear hW2
    simp only [Exit.then]
    go_step
    go_step
    go_step
    exact fin25 rfl rfl rfl k0 k1 k2 k3 k4 rfl ⟨ret_told rfl rfl rfl rfl rfl rfl, hB⟩

/-- 'Add' of what is given, at two bytes of the law 'alive'. -/
theorem add_alive (w : World) : Calls Try.prog 21 #[.int .u8 154, .int .u8 102, .bool false] w fun e w' => e = .returned (.tuple #[.int .u8 0, .agg #[.bool false, .bool true, .bool true, .bool true, .bool true]]) ∧ Below w.heap.size w w' :=
  (add_any 154 102 false (by omega) (by omega) (by omega) (by omega) w).mono fun _ _ ⟨he, hb⟩ => ⟨he.trans (ret_told (by decide) (by decide) (by decide) (by decide) (by decide) (by decide)), hb⟩

set_option maxHeartbeats 1000000 in
theorem told_any (n : Int) (A C : Bool) (n0 : 0 ≤ n) (n1 : n ≤ 100000) (w : World) : Calls Try.prog 50 #[.int .i64 n, .bool A, .bool C] w fun e w' => e = .returned (.tuple #[.int .u8 (lowB n), .agg #[.bool (sB n), .bool (zB n), .bool A, .bool (pB n), .bool C]]) ∧ Below w.heap.size w w' := by
    have hm := and255 n n0 (by omega)
    go_enter Try.func50, Try.ntmps50
    go_wp2_with (first
      | (go_at_call 19; refine (rpar_any _ (by omega) (by omega) _).mono ?_; rintro e w' ⟨rfl, rfl⟩))
    exact fin23 rfl rfl rfl (by go_cell) (by go_cell) (by go_cell) (by go_cell) (by go_cell) rfl ⟨ret_told rfl (sB_of n) (zB_of n) rfl (pB_of n) rfl, by go_grown⟩
set_option maxHeartbeats 1000000 in
theorem radd_any (a b : Int) (c : Bool) (a0 : 0 ≤ a) (a1 : a ≤ 255) (b0 : 0 ≤ b) (b1 : b ≤ 255) (w : World) : Calls Try.prog 22 #[.int .u8 a, .int .u8 b, .bool c] w fun e w' => e = .returned (.tuple #[.int .u8 (lowB (a + b + bi c 1)), .agg #[.bool (sB (a + b + bi c 1)), .bool (zB (a + b + bi c 1)), .bool (decide (15 < a % 16 + b % 16 + bi c 1)), .bool (pB (a + b + bi c 1)), .bool (decide (255 < a + b + bi c 1))]]) ∧ Below w.heap.size w w' := by
    obtain ⟨c0, c1⟩ := bi01 c
    go_enter Try.func22, Try.ntmps22
    go_wp2_with (first
      | (go_at_call 43; refine (bit_any _ _ _).mono ?_; rintro e w' ⟨rfl, rfl⟩)
      | (go_at_call 50; refine (told_any (a + b + bi c 1) _ _ (by omega) (by omega) _).mono ?_; rintro e w1 ⟨rfl, hb1⟩; obtain ⟨⟨_, _, _, _, _⟩, _, _, _, _, _⟩ := five (at_below hb1 (at_new _ _))
         (have hz1 : w.heap.size < w1.heap.size := by have := hb1.size; simp at this; omega); (have hg1 : Below w.heap.size w w1 := below_step (by go_grown) hb1); clear hb1))
    exact fin23 rfl rfl rfl (by go_cell) (by go_cell) (by go_cell) (by go_cell) (by go_cell) rfl ⟨ret_told rfl rfl rfl rfl rfl rfl, by go_grown⟩

set_option maxHeartbeats 1000000 in
theorem rsub_any (a b : Int) (c : Bool) (a0 : 0 ≤ a) (a1 : a ≤ 255) (b0 : 0 ≤ b) (b1 : b ≤ 255) (w : World) : Calls Try.prog 24 #[.int .u8 a, .int .u8 b, .bool c] w fun e w' => e = .returned (.tuple #[.int .u8 (lowB (a - b - bi c 1 + 256)), .agg #[.bool (sB (a - b - bi c 1 + 256)), .bool (zB (a - b - bi c 1 + 256)), .bool (decide (15 < a % 16 + 15 - b % 16 + bi (!c) 1)), .bool (pB (a - b - bi c 1 + 256)), .bool (decide (a - b - bi c 1 < 0))]]) ∧ Below w.heap.size w w' := by
    obtain ⟨c0, c1⟩ := bi01 c
    obtain ⟨d0, d1⟩ := bi01 (!c)
    go_enter Try.func24, Try.ntmps24
    go_wp2_with (first
      | (go_at_call 43; refine (bit_any _ _ _).mono ?_; rintro e w' ⟨rfl, rfl⟩)
      | (go_at_call 50; refine (told_any (a - b - bi c 1 + 256) _ _ (by omega) (by omega) _).mono ?_; rintro e w1 ⟨rfl, hb1⟩; obtain ⟨⟨_, _, _, _, _⟩, _, _, _, _, _⟩ := five (at_below hb1 (at_new _ _))
         (have hz1 : w.heap.size < w1.heap.size := by have := hb1.size; simp at this; omega); (have hg1 : Below w.heap.size w w1 := below_step (by go_grown) hb1); clear hb1))
    exact fin23 rfl rfl rfl (by go_cell) (by go_cell) (by go_cell) (by go_cell) (by go_cell) rfl ⟨ret_told rfl rfl rfl rfl rfl rfl, by go_grown⟩

/-- The same sum as Sub makes it: a and b's complement. -/
theorem add_not (a b : Int) (c : Bool) (a0 : 0 ≤ a) (a1 : a ≤ 255) (b0 : 0 ≤ b) (b1 : b ≤ 255) (w : World) : Calls Try.prog 21 #[.int .u8 a, .int .u8 (255 - b), .bool (!c)] w fun e w' => e = .returned (.tuple #[.int .u8 (lowB (a - b - bi c 1 + 256)), .agg #[.bool (sB (a - b - bi c 1 + 256)), .bool (zB (a - b - bi c 1 + 256)), .bool (decide (15 < a % 16 + 15 - b % 16 + bi (!c) 1)), .bool (pB (a - b - bi c 1 + 256)), .bool (decide (255 < a - b - bi c 1 + 256))]]) ∧ Below w.heap.size w w' :=
  (add_any a (255 - b) (!c) a0 a1 (by omega) (by omega) w).mono fun _ _ ⟨he, hb⟩ => ⟨by
    have e1 : a + (255 - b) + bi (!c) 1 = a - b - bi c 1 + 256 := by rw [bi_not]; omega
    have e2 : a % 16 + (255 - b) % 16 + bi (!c) 1 = a % 16 + 15 - b % 16 + bi (!c) 1 := by omega
    rw [e1, e2] at he
    exact he, hb⟩
set_option maxHeartbeats 1000000 in
theorem sub_any (a b : Int) (c : Bool) (a0 : 0 ≤ a) (a1 : a ≤ 255) (b0 : 0 ≤ b) (b1 : b ≤ 255) (w : World) : Calls Try.prog 23 #[.int .u8 a, .int .u8 b, .bool c] w fun e w' => e = .returned (.tuple #[.int .u8 (lowB (a - b - bi c 1 + 256)), .agg #[.bool (sB (a - b - bi c 1 + 256)), .bool (zB (a - b - bi c 1 + 256)), .bool (decide (15 < a % 16 + 15 - b % 16 + bi (!c) 1)), .bool (pB (a - b - bi c 1 + 256)), .bool (decide (a - b - bi c 1 < 0))]]) ∧ Below w.heap.size w w' := by
    obtain ⟨c0, c1⟩ := bi01 c
    have hx := xor_max b b0 b1
    have hs : IntKind.u8.signed = false := rfl
    go_enter Try.func23, Try.ntmps23
    go_wp2_with (first
      | (go_at_call 21; with_reducible refine (add_not a b c a0 a1 b0 b1 _).mono ?_; rintro e w1 ⟨rfl, hb1⟩; obtain ⟨⟨_, _, _, _, _⟩, _, _, _, _, _⟩ := five (at_below hb1 (at_new _ _))
         (have hz1 : w.heap.size < w1.heap.size := by have := hb1.size; simp at this; omega); (have hg1 : Below w.heap.size w w1 := below_step (by go_grown) hb1); clear hb1))
    go_region
    generalize hW2 : World.drew _ = W2
    have hB : Below w.heap.size w W2 := by subst hW2; go_grown
    have k0 : W2.cell? ⟨w.heap.size, 0, none⟩ = some (.bool (sB (a - b - bi c 1 + 256))) := by subst hW2; go_cell
    have k1 : W2.cell? ⟨w.heap.size, 1, none⟩ = some (.bool (zB (a - b - bi c 1 + 256))) := by subst hW2; go_cell
    have k2 : W2.cell? ⟨w.heap.size, 2, none⟩ = some (.bool (decide (15 < a % 16 + 15 - b % 16 + bi (!c) 1))) := by subst hW2; go_cell
    have k3 : W2.cell? ⟨w.heap.size, 3, none⟩ = some (.bool (pB (a - b - bi c 1 + 256))) := by subst hW2; go_cell
    have k4 : W2.cell? ⟨w.heap.size, 4, none⟩ = some (.bool (!decide (255 < a - b - bi c 1 + 256))) := by subst hW2; go_cell
    clear hW2
    simp only [Exit.then]
    go_step
    go_step
    go_step
    exact fin25 rfl rfl rfl k0 k1 k2 k3 k4 rfl ⟨ret_told rfl rfl rfl rfl rfl (by rw [Bool.eq_iff_iff]; simp; omega), hB⟩

end Go.Proofs.Ytpkiobnnpjimaaa
