/- What the document's eval and Eval of expressions do when they are called; the symbols are at most 1000000, the texts short. What the document's Eval of expressions does when it is called; the symbols are at most 1000000, the texts short. -/
import Derived.Test.YtaoeipbofhkkcaaGreatDoorExRgtb
import Derived.Test.YtaoeipbofhkkcaaGreatDoorExTwo
namespace Go.Proofs.YtaoeipbofhkkcaaGreatDoor
open Go.RowKit Go.Proofs.NumMath

theorem SymR.le {W : World} {v : Value} {l : List (List UInt8 × Nat)} (h : SymR W v l) : ∀ x ∈ l, x.2 ≤ 65535 := by
  obtain ⟨b, o, sp, c, _, _, hc⟩ := h
  intro x hx
  obtain ⟨i, hi, e⟩ := List.getElem_of_mem hx
  exact (hc i x (by rw [List.getElem?_eq_getElem hi, e])).2.2
def EvalsAt (here : Nat) (l : List (List UInt8 × Nat)) (vs : Value) (r : RE) : Prop :=
  ∀ (v : Value) (w : World), ExV w v (toEx r) → SymR w vs l → Calls Tryz.prog 29 #[v, .int .u16 here, vs] w fun e w' =>
    e = .returned (.tuple #[.int .u16 ((evalR here (findL l) r).1 : Nat), .int .i64 ((evalR here (findL l) r).2 : Nat)]) ∧ Below w.heap.size w w'
theorem evals_num (here n : Nat) (l : List (List UInt8 × Nat)) (vs : Value) : EvalsAt here l vs (.num n) := by
  rintro v w ⟨hn, b, o, sp, c, rfl, hsp, hl⟩ hS
  clear hS hl hsp
  go_enter Tryz.func29, Tryz.ntmps29
  go_wp2
  go_ret2
  exact ⟨rfl, box_below _ _⟩
theorem evals_here (here : Nat) (l : List (List UInt8 × Nat)) (vs : Value) : EvalsAt here l vs .here := by
  rintro v w ⟨hn, b, o, sp, c, rfl, hsp, hl⟩ hS
  clear hS hl hsp
  go_enter Tryz.func29, Tryz.ntmps29
  go_wp2
  go_ret2
  exact ⟨rfl, box_below _ _⟩
theorem evals_nam (here : Nat) (s : List UInt8) (l : List (List UInt8 × Nat)) (vs : Value) (hl : l.length ≤ 1000000) : EvalsAt here l vs (.nam s) := by
  rintro v w ⟨hn, b, o, sp, c, rfl, hsp, hh⟩ hS
  have hF := find_any vs l s _ (hS.below (box_below w (Obj.cells #[Value.string ⟨#[110]⟩, Value.int .u16 0, Value.string ⟨s.toArray⟩, Value.slice sp 0 c] 25))) hl
  clear hS hh hsp
  go_enter Tryz.func29, Tryz.ntmps29
  go_wp2_with (go_at_call 12; refine hF.mono ?_; rintro e w2 ⟨rfl, rfl⟩)
  go_ret2
  exact ⟨rfl, box_below _ _⟩
theorem box_cells (w : World) (u0 u1 u2 u3 : Value) : (w.alloc (Obj.cells #[u0, u1, u2, u3] 25)).cell? ⟨w.heap.size, 0, none⟩ = some u0 ∧ (w.alloc (Obj.cells #[u0, u1, u2, u3] 25)).cell? ⟨w.heap.size, 1, none⟩ = some u1 ∧ (w.alloc (Obj.cells #[u0, u1, u2, u3] 25)).cell? ⟨w.heap.size, 2, none⟩ = some u2 ∧ (w.alloc (Obj.cells #[u0, u1, u2, u3] 25)).cell? ⟨w.heap.size, 3, none⟩ = some u3 := cells_box (heap_alloc_new w _)
theorem neg_val (a : Nat) (ha : a ≤ 65535) : IntKind.u16.wrap (bits BinOp.and IntKind.i64 (65536 - (a : Int)) 65535) = (((65536 - a) % 65536 : Nat) : Int) := by
  rw [and_i64, IntWalk.u16_in _ (by omega)]; omega
set_option maxHeartbeats 1000000 in
theorem evals_un (here : Nat) (op : O1) (a : RE) (l : List (List UInt8 × Nat)) (vs : Value) (hle : (evalR here (findL l) a).1 ≤ 65535) (ih : EvalsAt here l vs a) : EvalsAt here l vs (.un op a) := by
  rintro v w ⟨hn, b, o, sp, c, rfl, hsp, hh⟩ hS
  obtain rfl := hsp (by simp)
  obtain ⟨b0, b1, b2, b3⟩ := box_cells w (Value.string ⟨(txt1 op).toArray⟩) (Value.int .u16 0) (Value.string ⟨#[]⟩) (Value.slice (some ⟨b, o, none⟩) 1 c)
  have hB := box_below w (Obj.cells #[Value.string ⟨(txt1 op).toArray⟩, Value.int .u16 0, Value.string ⟨#[]⟩, Value.slice (some ⟨b, o, none⟩) 1 c] 25)
  obtain ⟨v0, v1, v2, v3, x0, x1, x2, x3, hev⟩ := (CellsAt.keep (keep_bel hB) _ _ _ hh.1).val
  have hc := ih _ _ hev (hS.below hB)
  rw [evalR]
  obtain ⟨⟨x, k⟩, hx⟩ : ∃ x, evalR here (findL l) a = x := ⟨_, rfl⟩
  rw [hx] at hc hle ⊢
  simp only at hc hle ⊢
  clear hx hev hh ih hS hsp
  have HB := Lib.hid hB
  clear hB
  have hnv := neg_val x hle
  by_cases hk : k = 0
  · subst hk
    cases op
    all_goals
      dsimp only [txt1] at b0 b1 b2 b3 x0 x1 x2 x3 hc HB ⊢
      go_enter Tryz.func29, Tryz.ntmps29
      go_wp2_with (go_at_call 29; refine hc.mono ?_; rintro e w2 ⟨rfl, hB2⟩; have d0 := keep_bel hB2 _ _ b0)
      go_ret2
      refine ⟨ret_two ?_ rfl, HB.out.trans (hB2.mono HB.out.size)⟩
    · show (65535 : Int) - x = ((65535 - x : Nat) : Int)
      omega
    · exact (Int.natCast_emod (65536 - x) 65536).symm
  · have hkz : ((k : Int) != 0) = true := by rw [bne_iff_ne]; omega
    rw [if_neg hk]
    cases op
    all_goals
      dsimp only [txt1] at b0 b1 b2 b3 x0 x1 x2 x3 hc HB ⊢
      go_enter Tryz.func29, Tryz.ntmps29
      go_wp2_with (go_at_call 29; refine hc.mono ?_; rintro e w2 ⟨rfl, hB2⟩; have d0 := keep_bel hB2 _ _ b0)
      go_ret2
      exact ⟨ret_two rfl rfl, HB.out.trans (hB2.mono HB.out.size)⟩
set_option maxHeartbeats 4000000 in
theorem evals_bin (here : Nat) (op : O2) (a b : RE) (l : List (List UInt8 × Nat)) (vs : Value) (hla : (evalR here (findL l) a).1 ≤ 65535) (hlb : (evalR here (findL l) b).1 ≤ 65535) (iha : EvalsAt here l vs a) (ihb : EvalsAt here l vs b) : EvalsAt here l vs (.bin op a b) := by
  rintro v w ⟨hn, q, o, sp, c, rfl, hsp, hh⟩ hS
  obtain rfl := hsp (by simp)
  obtain ⟨b0, b1, b2, b3⟩ := box_cells w (Value.string ⟨(txt2 op).toArray⟩) (Value.int .u16 0) (Value.string ⟨#[]⟩) (Value.slice (some ⟨q, o, none⟩) 2 c)
  have hB := box_below w (Obj.cells #[Value.string ⟨(txt2 op).toArray⟩, Value.int .u16 0, Value.string ⟨#[]⟩, Value.slice (some ⟨q, o, none⟩) 2 c] 25)
  have hcb := CellsAt.keep (keep_bel hB) _ _ _ hh.2.1
  obtain ⟨v0, v1, v2, v3, x0, x1, x2, x3, hev⟩ := (CellsAt.keep (keep_bel hB) _ _ _ hh.1).val
  have hS1 := hS.below hB
  have hc := iha _ _ hev hS1
  rw [evalR]
  have ht := two_any op
  obtain ⟨⟨x, k⟩, hx⟩ : ∃ x, evalR here (findL l) a = x := ⟨_, rfl⟩
  obtain ⟨⟨y, j⟩, hy⟩ : ∃ y, evalR here (findL l) b = y := ⟨_, rfl⟩
  have hcy := fun v w hv hs => ihb v w hv hs
  rw [hy] at hcy
  rw [hx] at hc hla ⊢
  rw [hy] at hlb ⊢
  simp only at hc hcy hla hlb ⊢
  have t1 : (txt2 op == [35]) = false := by cases op <;> rfl
  have t2 : (txt2 op == [36]) = false := by cases op <;> rfl
  have t3 : (txt2 op == [110]) = false := by cases op <;> rfl
  have t4 : (txt2 op == [78, 79, 84]) = false := by cases op <;> rfl
  have t5 : (txt2 op == [78, 69, 71]) = false := by cases op <;> rfl
  clear hx hy hev hh iha ihb hS hsp
  obtain ⟨z, hz⟩ : ∃ z : Nat × Nat, two16 op x y = z := ⟨_, rfl⟩
  have ht2 := fun w => ht x y hla hlb w
  rw [hz] at ht2 ⊢
  clear ht hz
  generalize txt2 op = T at *
  have HB := Lib.hid hB
  have HS := Lib.hid hS1
  have HC := Lib.hid hcb
  have HY := Lib.hid hcy
  clear hB hS1 hcb hcy
  by_cases hk : k = 0
  · subst hk
    rw [if_pos rfl]
    by_cases hj : j = 0
    · subst hj
      rw [if_pos rfl]
      go_enter Tryz.func29, Tryz.ntmps29
      go_wp2_with (first
        | (go_at_call 29; (with_reducible refine hc.mono ?_); rintro e w2 ⟨rfl, hB2⟩; have d0 := keep_bel hB2 _ _ b0; have d3 := keep_bel hB2 _ _ b3; obtain ⟨u0, u1, u2, u3, y0, y1, y2, y3, hev2⟩ := (CellsAt.keep (keep_bel hB2) _ _ _ HC.out).val; have hc2 := HY.out _ _ hev2 (HS.out.below hB2); have HE2 := Lib.hid hev2; clear hev2)
        | (go_at_call 29; (with_reducible refine hc2.mono ?_); rintro e w3 ⟨rfl, hB3⟩; have e0 := keep_bel hB3 _ _ d0)
        | (go_at_call 39; (with_reducible refine (ht2 _).mono ?_); rintro e w4 ⟨rfl, rfl⟩))
      go_ret2
      exact ⟨rfl, HB.out.trans ((hB2.mono HB.out.size).trans (hB3.mono (Nat.le_trans HB.out.size hB2.size)))⟩
    · have hjz : ((j : Int) != 0) = true := by rw [bne_iff_ne]; omega
      rw [if_neg hj]
      clear ht2
      go_enter Tryz.func29, Tryz.ntmps29
      go_wp2_with (first
        | (go_at_call 29; (with_reducible refine hc.mono ?_); rintro e w2 ⟨rfl, hB2⟩; have d0 := keep_bel hB2 _ _ b0; have d3 := keep_bel hB2 _ _ b3; obtain ⟨u0, u1, u2, u3, y0, y1, y2, y3, hev2⟩ := (CellsAt.keep (keep_bel hB2) _ _ _ HC.out).val; have hc2 := HY.out _ _ hev2 (HS.out.below hB2); have HE2 := Lib.hid hev2; clear hev2)
        | (go_at_call 29; (with_reducible refine hc2.mono ?_); rintro e w3 ⟨rfl, hB3⟩; have e0 := keep_bel hB3 _ _ d0))
      go_ret2
      exact ⟨rfl, HB.out.trans ((hB2.mono HB.out.size).trans (hB3.mono (Nat.le_trans HB.out.size hB2.size)))⟩
  · have hkz : ((k : Int) != 0) = true := by rw [bne_iff_ne]; omega
    rw [if_neg hk]
    clear ht2
    go_enter Tryz.func29, Tryz.ntmps29
    go_wp2_with (go_at_call 29; refine hc.mono ?_; rintro e w2 ⟨rfl, hB2⟩; have d0 := keep_bel hB2 _ _ b0)
    go_ret2
    exact ⟨ret_two rfl rfl, HB.out.trans (hB2.mono HB.out.size)⟩
theorem evals (here : Nat) (l : List (List UInt8 × Nat)) (vs : Value) (hh : here ≤ 65535) (hl : l.length ≤ 1000000) (hv : ∀ x ∈ l, x.2 ≤ 65535) : ∀ r, okR r = true → EvalsAt here l vs r
  | .num n, _ => evals_num here n l vs
  | .nam s, _ => evals_nam here s l vs hl
  | .here, _ => evals_here here l vs
  | .un o a, h => by
    simp only [okR] at h
    exact evals_un here o a l vs (evalR_bd here _ hh (fun s => findL_le s hv) a h) (evals here l vs hh hl hv a h)
  | .bin o a b, h => by
    simp only [okR, Bool.and_eq_true] at h
    exact evals_bin here o a b l vs (evalR_bd here _ hh (fun s => findL_le s hv) a h.1) (evalR_bd here _ hh (fun s => findL_le s hv) b h.2) (evals here l vs hh hl hv a h.1) (evals here l vs hh hl hv b h.2)
end Go.Proofs.YtaoeipbofhkkcaaGreatDoor
namespace Go.Proofs.YtaoeipbofhkkcaaGreatDoor
open Go.RowKit Go.Proofs.NumMath

/-- a tree's value, or the kind of what is wrong with it -/
def EvX (here : Nat) (val : List UInt8 → Nat × Nat) (e : Ex) (x : Nat × Nat) : Prop := (rightX 1 e = false ∧ x = (0, 2)) ∨ ∃ r, toEx r = e ∧ okR r = true ∧ rightX 1 e = true ∧ x = evalR here val r
theorem EvX.one {here : Nat} {val : List UInt8 → Nat × Nat} {e : Ex} {x y : Nat × Nat} (hx : EvX here val e x) (hy : EvX here val e y) : x = y := by
  rcases hx with ⟨h1, rfl⟩ | ⟨r, h1, h2, h3, rfl⟩
  · rcases hy with ⟨_, rfl⟩ | ⟨r, _, _, h3, _⟩
    · rfl
    · rw [h1] at h3; cases h3
  · rcases hy with ⟨h4, _⟩ | ⟨r', h4, _, _, rfl⟩
    · rw [h3] at h4; cases h4
    · rw [toEx_inj r r' (h1.trans h4.symm)]
theorem EvX.some (here : Nat) (val : List UInt8 → Nat × Nat) (e : Ex) : ∃ x, EvX here val e x := by
  cases h : rightX 1 e
  · exact ⟨_, .inl ⟨h, rfl⟩⟩
  · obtain ⟨r, h1, h2, _⟩ := right_toEx e 1 h
    exact ⟨_, .inr ⟨r, h1, h2, h, rfl⟩⟩
theorem Eval_any (v vs : Value) (e : Ex) (here : Nat) (l : List (List UInt8 × Nat)) (x : Nat × Nat) (w : World) (hs : shortX e = true) (hv : ExV w v e) (hS : SymR w vs l) (hl : l.length ≤ 1000000) (hh : here ≤ 65535) (hx : EvX here (findL l) e x) :
    Calls Tryz.prog 13 #[v, .int .u16 here, vs] w fun r w' => r = .returned (.tuple #[.int .u16 (x.1 : Nat), .int .i64 (x.2 : Nat)]) ∧ Below w.heap.size w w' := by
  have hv' := hv
  rcases hx with ⟨h1, rfl⟩ | ⟨r, h1, h2, h3, hx⟩
  · obtain ⟨op, n, name, sub⟩ := e
    obtain ⟨hn, b, o, sp, c, rfl, hsp, hll⟩ := hv
    have hB0 := box_below w (Obj.cells #[Value.string ⟨op.toArray⟩, Value.int .u16 n, Value.string ⟨name.toArray⟩, Value.slice sp sub.length c] 25)
    have hc := Right_any _ _ _ hs (hv'.below hB0)
    have hk : rightK (.mk op n name sub) = 2 := by unfold rightK; rw [h1]; rfl
    rw [hk] at hc
    have HB := Lib.hid hB0
    clear hk hv' hll hsp hB0 hS
    go_enter Tryz.func13, Tryz.ntmps13
    go_wp2_with (go_at_call 28; refine hc.mono ?_; rintro e w2 ⟨rfl, hB⟩)
    go_ret2
    exact ⟨rfl, HB.out.trans (hB.mono HB.out.size)⟩
  · have hE := evals here l vs hh hl hS.le r h2
    obtain ⟨op, n, name, sub⟩ := e
    have hE' := fun v w hv hS => hE v w (by rw [h1]; exact hv) hS
    obtain ⟨hn, b, o, sp, c, rfl, hsp, hll⟩ := hv
    rw [← hx] at hE'
    have hB0 := box_below w (Obj.cells #[Value.string ⟨op.toArray⟩, Value.int .u16 n, Value.string ⟨name.toArray⟩, Value.slice sp sub.length c] 25)
    have hc := Right_any _ _ _ hs (hv'.below hB0)
    have hk : rightK (.mk op n name sub) = 0 := by unfold rightK; rw [h3]; rfl
    rw [hk] at hc
    obtain ⟨b0, b1, b2, b3⟩ := box_cells w (Value.string ⟨op.toArray⟩) (Value.int .u16 n) (Value.string ⟨name.toArray⟩) (Value.slice sp sub.length c)
    have HB := Lib.hid hB0
    have HV := Lib.hid (hv'.below hB0)
    have HS := Lib.hid (hS.below hB0)
    have HE := Lib.hid hE'
    clear hk hv' hll hsp hB0 hS hE' hE h1 h2 h3 hx
    go_enter Tryz.func13, Tryz.ntmps13
    go_wp2_with (first
      | (go_at_call 28; refine hc.mono ?_; rintro e w2 ⟨rfl, hB⟩; have d0 := keep_bel hB _ _ b0; have d1 := keep_bel hB _ _ b1; have d2 := keep_bel hB _ _ b2; have d3 := keep_bel hB _ _ b3; have hc2 := HE.out _ _ (HV.out.below hB) (HS.out.below hB))
      | (go_at_call 29; refine hc2.mono ?_; rintro e w3 ⟨rfl, hB3⟩))
    go_ret2
    exact ⟨rfl, HB.out.trans ((hB.mono HB.out.size).trans (hB3.mono (Nat.le_trans HB.out.size hB.size)))⟩
end Go.Proofs.YtaoeipbofhkkcaaGreatDoor
