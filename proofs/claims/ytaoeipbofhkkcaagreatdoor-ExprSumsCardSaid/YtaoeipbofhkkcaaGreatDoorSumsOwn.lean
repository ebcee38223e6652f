/- What ExprSums needs of its own: a number's tree, trees of trees, their values; where the library's tables are laid. -/
import Derived.Test.YtaoeipbofhkkcaaGreatDoorPrOf
import Derived.Test.YtaoeipbofhkkcaaGreatDoorExSam
namespace Go.Proofs.YtaoeipbofhkkcaaGreatDoor
open Go.RowKit Go.Proofs.NumMath

theorem resE1 {fn : Func} {p k : Nat} {v0 v1 v2 v3 : Value} {tmps : Array Value} {W : World} (h : fn.results = #[.cell p 25]) (hp : tmps.getD p undef = .pointer (some ⟨k, 0, none⟩))
    (k0 : W.cell? ⟨k, 0, none⟩ = some v0) (k1 : W.cell? ⟨k, 1, none⟩ = some v1) (k2 : W.cell? ⟨k, 2, none⟩ = some v2) (k3 : W.cell? ⟨k, 3, none⟩ = some v3) : (results fn tmps).run Tryz.prog W = .ok (.agg #[v0, v1, v2, v3]) W := by
  simp only [Array.getD_eq_getD_getElem?] at hp
  simp only [results, h]
  simp [hp, go_sem, k0, k1, k2, k3]
theorem finE1 {fn : Func} {R : Ending → World → Prop} {p k : Nat} {v0 v1 v2 v3 : Value} {t : TypeId} {a : Act} {W : World} (h : fn.results = #[.cell p 25]) (hp : a.tmps.getD p undef = .pointer (some ⟨k, 0, none⟩))
    (hb : W.heap[k]? = some (.cells #[v0, v1, v2, v3] t (0, 0))) (hd : a.defers = []) (hR : R (.returned (.agg #[v0, v1, v2, v3])) W) : bodyPost Tryz.prog fn R .ret a W :=
  have ⟨k0, k1, k2, k3⟩ := cells_box hb
  bodyPost_ret (resE1 h hp k0 k1 k2 k3) hd hR
set_option maxHeartbeats 4000000 in
theorem leaf18_any (a : Nat) (w : World) : Calls Tryz.prog 18 #[.int .u16 (a : Nat)] w fun x w' => x = .returned (.agg #[.string ⟨#[35]⟩, .int .u16 (a : Nat), .string ⟨#[]⟩, .slice none 0 0]) ∧ Below w.heap.size w w' := by
  go_enter Tryz.func18, Tryz.ntmps18
  go_wp2
  exact finE1 rfl rfl (heap_alloc_new _ _) rfl ⟨rfl, box_below w _⟩
theorem leaf_ex (W : World) (a : Nat) (ha : a ≤ 65535) : ExV W (.agg #[.string ⟨#[35]⟩, .int .u16 (a : Nat), .string ⟨#[]⟩, .slice none 0 0]) (toEx (.num a)) :=
  ⟨ha, 0, 0, none, 0, rfl, fun h => absurd h (by simp), by simp only [ListAt]⟩
theorem kids1_ex {W : World} {k : Nat} {x0 x1 x2 x3 : Value} {e1 : Ex} {t : TypeId} {fr : Nat × Nat} (op : List UInt8) (hk : W.heap[k]? = some (.cells #[x0, x1, x2, x3] t fr)) (h1 : ExV W (.agg #[x0, x1, x2, x3]) e1) :
    ExV W (.agg #[.string ⟨op.toArray⟩, .int .u16 0, .string ⟨#[]⟩, .slice (some ⟨k, 0, none⟩) 1 1]) (.mk op 0 [] [e1]) := by
  refine ⟨by omega, k, 0, some ⟨k, 0, none⟩, 1, rfl, fun _ => rfl, ?_⟩
  simp only [ListAt, and_true]
  exact h1.cells (by simp [World.cell?, hk]) (by simp [World.cell?, hk]) (by simp [World.cell?, hk]) (by simp [World.cell?, hk])
theorem kids2_ex {W : World} {k : Nat} {x0 x1 x2 x3 y0 y1 y2 y3 : Value} {e1 e2 : Ex} {t : TypeId} {fr : Nat × Nat} (op : List UInt8) (hk : W.heap[k]? = some (.cells #[x0, x1, x2, x3, y0, y1, y2, y3] t fr)) (h1 : ExV W (.agg #[x0, x1, x2, x3]) e1) (h2 : ExV W (.agg #[y0, y1, y2, y3]) e2) :
    ExV W (.agg #[.string ⟨op.toArray⟩, .int .u16 0, .string ⟨#[]⟩, .slice (some ⟨k, 0, none⟩) 2 2]) (.mk op 0 [] [e1, e2]) := by
  refine ⟨by omega, k, 0, some ⟨k, 0, none⟩, 2, rfl, fun _ => rfl, ?_⟩
  simp only [ListAt, and_true]
  exact ⟨h1.cells (by simp [World.cell?, hk]) (by simp [World.cell?, hk]) (by simp [World.cell?, hk]) (by simp [World.cell?, hk]), h2.cells (by simp [World.cell?, hk]) (by simp [World.cell?, hk]) (by simp [World.cell?, hk]) (by simp [World.cell?, hk])⟩
theorem evalT (r : RE) (hok : okR r = true) (hd : deepR r ≤ 24) (hs : shortX (toEx r) = true) (z : Nat) (hz : evalR 0 (fun _ => (0, 3)) r = (z, 0)) (v : Value) (W : World) (hv : ExV W v (toEx r)) : Calls Tryz.prog 10 #[v, .int .u16 0, .nilFunc] W fun x w' =>
    x = .returned (.tuple #[.int .u16 (z : Nat), .int .i64 0]) ∧ Below W.heap.size W w' :=
  pEval_any 0 (by omega) (fun _ => (0, 3)) (fun _ => Nat.zero_le _) .nilFunc v _ (z, 0) _ hs hv (.inl rfl) (askAt_nil _) (.inr ⟨_, rfl, hok, toEx_right _ 1 hok (by omega), hz.symm⟩)
def rD (a b c : Nat) : RE := .bin .sub (.bin .sub (.num a) (.num b)) (.num c)
def rE (a b c : Nat) : RE := .bin .sub (.num a) (.bin .add (.num b) (.num c))
def rF (a : Nat) : RE := .un .inv (.un .inv (.num a))
def rG (a : Nat) : RE := .un .neg (.un .neg (.num a))
theorem rD_ok (a b c : Nat) (ha : a ≤ 65535) (hb : b ≤ 65535) (hc : c ≤ 65535) : okR (rD a b c) = true := by simp [rD, okR, ha, hb, hc]
theorem rE_ok (a b c : Nat) (ha : a ≤ 65535) (hb : b ≤ 65535) (hc : c ≤ 65535) : okR (rE a b c) = true := by simp [rE, okR, ha, hb, hc]
theorem rF_ok (a : Nat) (ha : a ≤ 65535) : okR (rF a) = true := by simp [rF, okR, ha]
theorem rG_ok (a : Nat) (ha : a ≤ 65535) : okR (rG a) = true := by simp [rG, okR, ha]
theorem rD_short (a b c : Nat) : shortX (toEx (rD a b c)) = true := by simp [rD, toEx, shortX, shortS, txt2]
theorem rE_short (a b c : Nat) : shortX (toEx (rE a b c)) = true := by simp [rE, toEx, shortX, shortS, txt2]
theorem rF_short (a : Nat) : shortX (toEx (rF a)) = true := by simp [rF, toEx, shortX, shortS, txt1]
theorem rG_short (a : Nat) : shortX (toEx (rG a)) = true := by simp [rG, toEx, shortX, shortS, txt1]
theorem rD_val (a b c : Nat) : evalR 0 (fun _ => (0, 3)) (rD a b c) = ((two16 .sub (two16 .sub a b).1 c).1, 0) := by simp [rD, evalR, two16]
theorem rE_val (a b c : Nat) (ha : a ≤ 65535) (hb : b ≤ 65535) (hc : c ≤ 65535) : evalR 0 (fun _ => (0, 3)) (rE a b c) = ((two16 .sub (two16 .sub a b).1 c).1, 0) := by
  rw [sub_sub a b c ha hb hc]; simp [rE, evalR, two16]
theorem rF_val (a : Nat) (ha : a ≤ 65535) : evalR 0 (fun _ => (0, 3)) (rF a) = (a, 0) := by simp [rF, evalR, inv_inv a ha]
theorem rG_val (a : Nat) (ha : a ≤ 65535) : evalR 0 (fun _ => (0, 3)) (rG a) = (a, 0) := by simp [rG, evalR, neg_neg a ha]
theorem rD_nodes (a b c : Nat) : nodesX (toEx (rD a b c)) = 5 := by simp [rD, toEx, nodesX, nodesS]
theorem rD_len (a b c : Nat) (h : okR (rD a b c) = true) : (textR (rD a b c) 1).length ≤ 200 := by
  have := textR_len (rD a b c) 1 h
  rw [rD_nodes] at this
  omega
abbrev oLL (a b : Nat) : Obj := Obj.cells #[.string ⟨#[35]⟩, .int .u16 (a : Nat), .string ⟨#[]⟩, .slice none 0 0, .string ⟨#[35]⟩, .int .u16 (b : Nat), .string ⟨#[]⟩, .slice none 0 0] 25
abbrev oTL (s : ByteArray) (j c : Nat) : Obj := Obj.cells #[.string s, .int .u16 0, .string ⟨#[]⟩, .slice (some ⟨j, 0, none⟩) 2 2, .string ⟨#[35]⟩, .int .u16 (c : Nat), .string ⟨#[]⟩, .slice none 0 0] 25
abbrev oLT (s : ByteArray) (a j : Nat) : Obj := Obj.cells #[.string ⟨#[35]⟩, .int .u16 (a : Nat), .string ⟨#[]⟩, .slice none 0 0, .string s, .int .u16 0, .string ⟨#[]⟩, .slice (some ⟨j, 0, none⟩) 2 2] 25
abbrev oL (a : Nat) : Obj := Obj.cells #[.string ⟨#[35]⟩, .int .u16 (a : Nat), .string ⟨#[]⟩, .slice none 0 0] 25
abbrev oT (s : ByteArray) (j n : Nat) : Obj := Obj.cells #[.string s, .int .u16 0, .string ⟨#[]⟩, .slice (some ⟨j, 0, none⟩) n n] 25
abbrev vT (s : ByteArray) (j n : Nat) : Value := .agg #[.string s, .int .u16 0, .string ⟨#[]⟩, .slice (some ⟨j, 0, none⟩) n n]
theorem treeD (a b c : Nat) (ha : a ≤ 65535) (hb : b ≤ 65535) (hc : c ≤ 65535) {w w1 w2 w3 : World} (h1 : Below w.heap.size w w1) (h2 : Below w1.heap.size w1 w2) (h3 : Below (w2.alloc (oLL a b)).heap.size (w2.alloc (oLL a b)) w3) :
    ExV ((w3.alloc (oTL ⟨#[45]⟩ w2.heap.size c)).alloc (oT ⟨#[45]⟩ w3.heap.size 2)) (vT ⟨#[45]⟩ w3.heap.size 2) (toEx (rD a b c)) ∧
    ((w3.alloc (oTL ⟨#[45]⟩ w2.heap.size c)).alloc (oT ⟨#[45]⟩ w3.heap.size 2)).heap[w3.heap.size + 1]? = some (oT ⟨#[45]⟩ w3.heap.size 2) ∧
    Below w.heap.size w ((w3.alloc (oTL ⟨#[45]⟩ w2.heap.size c)).alloc (oT ⟨#[45]⟩ w3.heap.size 2)) := by
  obtain ⟨g0, g1⟩ := new_two w3 (oTL ⟨#[45]⟩ w2.heap.size c) (oT ⟨#[45]⟩ w3.heap.size 2)
  have hX := below_2o w3 (oTL ⟨#[45]⟩ w2.heap.size c) (oT ⟨#[45]⟩ w3.heap.size 2)
  have g2 := below_heap hX (below_heap h3 (heap_alloc_new w2 (oLL a b)))
  have hx := (box_below w2 (oLL a b)).trans ((h3.mono (box_below w2 (oLL a b)).size))
  have h12 := h1.trans (h2.mono h1.size)
  have h13 := h12.trans (hx.mono h12.size)
  generalize (w3.alloc (oTL ⟨#[45]⟩ w2.heap.size c)).alloc (oT ⟨#[45]⟩ w3.heap.size 2) = X at g0 g1 g2 hX ⊢
  exact ⟨kids2_ex [45] g0 (kids2_ex [45] g2 (leaf_ex X a ha) (leaf_ex X b hb)) (leaf_ex X c hc), g1, h13.trans (hX.mono h13.size)⟩
theorem treeE (a b c : Nat) (ha : a ≤ 65535) (hb : b ≤ 65535) (hc : c ≤ 65535) {w w1 w2 w3 : World} (h1 : Below w.heap.size w w1) (h2 : Below w1.heap.size w1 w2) (h3 : Below w2.heap.size w2 w3) :
    ExV (((w3.alloc (oLL b c)).alloc (oLT ⟨#[43]⟩ a w3.heap.size)).alloc (oT ⟨#[45]⟩ (w3.heap.size + 1) 2)) (vT ⟨#[45]⟩ (w3.heap.size + 1) 2) (toEx (rE a b c)) ∧
    (((w3.alloc (oLL b c)).alloc (oLT ⟨#[43]⟩ a w3.heap.size)).alloc (oT ⟨#[45]⟩ (w3.heap.size + 1) 2)).heap[w3.heap.size + 1 + 1]? = some (oT ⟨#[45]⟩ (w3.heap.size + 1) 2) ∧
    Below w.heap.size w (((w3.alloc (oLL b c)).alloc (oLT ⟨#[43]⟩ a w3.heap.size)).alloc (oT ⟨#[45]⟩ (w3.heap.size + 1) 2)) := by
  obtain ⟨g0, g1, g2⟩ := new_three w3 (oLL b c) (oLT ⟨#[43]⟩ a w3.heap.size) (oT ⟨#[45]⟩ (w3.heap.size + 1) 2)
  have hX := below_2o w3 (oLL b c) (oLT ⟨#[43]⟩ a w3.heap.size)
  have hX := hX.trans ((box_below _ (oT ⟨#[45]⟩ (w3.heap.size + 1) 2)).mono hX.size)
  have h12 := h1.trans (h2.mono h1.size)
  have h13 := h12.trans (h3.mono h12.size)
  generalize ((w3.alloc (oLL b c)).alloc (oLT ⟨#[43]⟩ a w3.heap.size)).alloc (oT ⟨#[45]⟩ (w3.heap.size + 1) 2) = X at g0 g1 g2 hX ⊢
  exact ⟨kids2_ex [45] g1 (leaf_ex X a ha) (kids2_ex [43] g0 (leaf_ex X b hb) (leaf_ex X c hc)), g2, h13.trans (hX.mono h13.size)⟩
theorem treeU (s : List UInt8) (a : Nat) (ha : a ≤ 65535) {w w1 : World} (h1 : Below w.heap.size w w1) :
    ExV (((w1.alloc (oL a)).alloc (oT ⟨s.toArray⟩ w1.heap.size 1)).alloc (oT ⟨s.toArray⟩ (w1.heap.size + 1) 1)) (vT ⟨s.toArray⟩ (w1.heap.size + 1) 1) (.mk s 0 [] [.mk s 0 [] [toEx (.num a)]]) ∧
    (((w1.alloc (oL a)).alloc (oT ⟨s.toArray⟩ w1.heap.size 1)).alloc (oT ⟨s.toArray⟩ (w1.heap.size + 1) 1)).heap[w1.heap.size + 1 + 1]? = some (oT ⟨s.toArray⟩ (w1.heap.size + 1) 1) ∧
    Below w.heap.size w (((w1.alloc (oL a)).alloc (oT ⟨s.toArray⟩ w1.heap.size 1)).alloc (oT ⟨s.toArray⟩ (w1.heap.size + 1) 1)) := by
  obtain ⟨g0, g1, g2⟩ := new_three w1 (oL a) (oT ⟨s.toArray⟩ w1.heap.size 1) (oT ⟨s.toArray⟩ (w1.heap.size + 1) 1)
  have hX := below_2o w1 (oL a) (oT ⟨s.toArray⟩ w1.heap.size 1)
  have hX := hX.trans ((box_below _ (oT ⟨s.toArray⟩ (w1.heap.size + 1) 1)).mono hX.size)
  generalize ((w1.alloc (oL a)).alloc (oT ⟨s.toArray⟩ w1.heap.size 1)).alloc (oT ⟨s.toArray⟩ (w1.heap.size + 1) 1) = X at g0 g1 g2 hX ⊢
  exact ⟨kids1_ex s g1 (kids1_ex s g0 (leaf_ex X a ha)), g2, h1.trans (hX.mono h1.size)⟩
end Go.Proofs.YtaoeipbofhkkcaaGreatDoor
