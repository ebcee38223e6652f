/- What the document's Same of tokens does when it is called; the slices hold at most 1000000 tokens each. -/
import Derived.Test.YtblbcdofiheikaaDoorToks
import Derived.BigQuiet
import Derived.Laws.StructEq
namespace Go.Proofs.YtblbcdofiheikaaDoor
open Go.RowKit Go.Proofs.NumMath

theorem under41 : Tryd.prog.underlying 41 = some (.struct (Tryd.prog.fieldsOf 41)) := by kernel_rfl
theorem fields41 : (Tryd.prog.fieldsOf 41).toList = [{ name := "Kind", type := 3, offset := 0, embedded := false, tag := "", pkgPath := "", byteOffset := 0 }, { name := "S", type := 9, offset := 1, embedded := false, tag := "", pkgPath := "", byteOffset := 8 }, { name := "N", type := 39, offset := 2, embedded := false, tag := "", pkgPath := "", byteOffset := 24 }] := by kernel_rfl
theorem str_beq (a b : List UInt8) : ((⟨a.toArray⟩ : ByteArray).toList == (⟨b.toArray⟩ : ByteArray).toList) = decide (a = b) := by
  rw [← beq_toListBytes]
  show ((a.toArray : Array UInt8) == b.toArray) = _
  rw [Bool.eq_iff_iff, decide_eq_true_eq, beq_iff_eq]
  exact ⟨fun h => by have := congrArg Array.toList h; simpa using this, fun h => by rw [h]⟩
theorem tok_dec (x y : Tok) : (decide (x.k = y.k) && (decide (x.s = y.s) && decide (x.n = y.n))) = decide (x = y) := by
  rw [Bool.eq_iff_iff]
  simp only [Bool.and_eq_true, decide_eq_true_eq]
  constructor
  · rintro ⟨h1, h2, h3⟩
    obtain ⟨k, s, n⟩ := x
    obtain ⟨k', s', n'⟩ := y
    simp only at h1 h2 h3
    rw [h1, h2, h3]
  · rintro rfl; exact ⟨rfl, rfl, rfl⟩
theorem eq41 (x y : Tok) (w : World) : (Op.equalIn 10000 41 (.agg #[.int .i64 x.k, .string ⟨x.s.toArray⟩, .int .u16 (x.n : Nat)]) (.agg #[.int .i64 y.k, .string ⟨y.s.toArray⟩, .int .u16 (y.n : Nat)])).run Tryd.prog w = .ok (decide (x = y)) w := by
  rw [show (10000 : Nat) = 9999 + 1 from rfl, run_equalIn_agg (P := Tryd.prog) w 9999 41 _ _ under41 (by kernel_rfl), fields41]
  have p1 : ∀ a b c : Value, (part 3 #[a, b, c] 0).run Tryd.prog w = .ok a w := fun a b c => by simp [part, Tryd.isAgg3]
  have p2 : ∀ a b c : Value, (part 9 #[a, b, c] 1).run Tryd.prog w = .ok b w := fun a b c => by simp [part, Tryd.isAgg9]
  have p3 : ∀ a b c : Value, (part 39 #[a, b, c] 2).run Tryd.prog w = .ok c w := fun a b c => by simp [part, Tryd.isAgg39]
  have e1 := run_equalIn_int (P := Tryd.prog) w 9998 3 .i64 .i64 x.k y.k Tryd.underlying3
  have e2 := run_equalIn_string (P := Tryd.prog) w 9998 9 ⟨x.s.toArray⟩ ⟨y.s.toArray⟩ Tryd.underlying9
  have e3 := run_equalIn_int (P := Tryd.prog) w 9998 39 .u16 .u16 x.n y.n Tryd.underlying39
  rw [str_beq] at e2
  have f1 : (x.k == y.k) = decide (x.k = y.k) := rfl
  have f3 : ((x.n : Int) == (y.n : Int)) = decide (x.n = y.n) := by rw [Bool.eq_iff_iff, beq_iff_eq, decide_eq_true_eq]; exact Int.ofNat_inj
  rw [f1] at e1
  rw [f3] at e3
  have n1 : ("Kind" : String) ≠ "_" := by decide
  have n2 : ("S" : String) ≠ "_" := by decide
  have n3 : ("N" : String) ≠ "_" := by decide
  rw [← tok_dec x y]
  simp only [Op.eqFields, if_pos n1, if_pos n2, if_pos n3, Sem.run_bind, p1, p2, p3, e1, e2, e3, Result.andThen_ok, Sem.run_ite, Sem.run_pure]
  cases decide (x.k = y.k) <;> cases decide (x.s = y.s) <;> cases decide (x.n = y.n) <;> simp
theorem quiet_neq {P : Program} {C : World → Prop} {K : Act → Prop} {a : Act} {o : Oper} (ty ty' : TypeId) (x y : Operand) (xs ys : Array Value) (b : Bool) (h : o.op = .binOp .neq ty x y ty') (hx : a.eval x = .agg xs) (hy : a.eval y = .agg ys)
    (hm : P.eqGuardType P.depth ty = false)
    (hl : ∀ w, (Op.equalIn 10000 ty (.agg xs) (.agg ys)).run P w = .ok b w) (hk : K (a.put o.dst (.bool (!b)))) : o.quiet P a C K :=
  ⟨.bool (!b), fun w hw => by
    unfold Oper.quietAt execOp
    simp only [h, hx, hy, Sem.run_bind, run_eqGuard_agg (hm := hm), run_neq_struct, hl, Result.andThen_ok, Sem.run_pure]
    exact ⟨rfl, rfl⟩, hk⟩
theorem nth_eq {α : Type} : ∀ (l m : List α), l.length = m.length → (∀ i : Nat, i < l.length → l[i]? = m[i]?) → l = m := fun l m h hh => by
  apply List.ext_getElem? 
  intro i
  by_cases hi : i < l.length
  · exact hh i hi
  · rw [List.getElem?_eq_none (by omega), List.getElem?_eq_none (by omega)]
set_option maxRecDepth 100000 in
set_option maxHeartbeats 4000000 in
theorem same_any (v1 v2 : Value) (l m : List Tok) (w : World) (h1 : TokR w v1 l) (h2 : TokR w v2 m) (hl : l.length ≤ 1000000) (hm : m.length ≤ 1000000) : Calls Tryd.prog 11 #[v1, v2] w fun e w' =>
    e = .returned (.bool (decide (l = m))) ∧ Below w.heap.size w w' := by
  obtain ⟨b1, o1, s1, c1, rfl, hs1, hc1⟩ := h1
  obtain ⟨b2, o2, s2, c2, rfl, hs2, hc2⟩ := h2
  obtain ⟨n1, hn1⟩ : ∃ n, l.length = n := ⟨_, rfl⟩
  obtain ⟨n2, hn2⟩ : ∃ n, m.length = n := ⟨_, rfl⟩
  rw [hn1] at hl hs1 ⊢
  rw [hn2] at hm hs2 ⊢
  have HN1 := Lib.hid hn1
  have HN2 := Lib.hid hn2
  have HC1 := Lib.hid hc1
  have HC2 := Lib.hid hc2
  clear hn1 hn2 hc1 hc2
  by_cases hnn : n1 = n2
  · subst hnn
    go_enter Tryd.func11, Tryd.ntmps11
    go_wp2
    go_loopw [5] (fun i wr => ∃ k : Nat, k ≤ n1 ∧ i = .int .i64 k ∧ Below w.heap.size w wr ∧ Hid (∀ j : Nat, j < k → l[j]? = m[j]?)) (fun i _ => n1 - (intOf i).toNat)
    case atStart => exact ⟨0, by omega, rfl, Below.refl _ _, Lib.hid (fun j hj => absurd hj (by omega))⟩
    case round =>
      obtain ⟨k, hk, rfl, hB, HQ⟩ := hrel
      by_cases hlt : k < n1
      · obtain rfl := hs1 (by omega)
        obtain rfl := hs2 (by omega)
        obtain ⟨x, hx⟩ : ∃ x, l[k]? = some x := ⟨_, List.getElem?_eq_getElem (by rw [HN1.out]; exact hlt)⟩
        obtain ⟨y, hy⟩ : ∃ y, m[k]? = some y := ⟨_, List.getElem?_eq_getElem (by rw [HN2.out]; exact hlt)⟩
        obtain ⟨x1, x2, x3⟩ := HC1.out k x hx
        obtain ⟨y1, y2, y3⟩ := HC2.out k y hy
        replace x1 := keep_below hB _ _ x1
        replace x2 := keep_below hB _ _ x2
        replace x3 := keep_below hB _ _ x3
        replace y1 := keep_below hB _ _ y1
        replace y2 := keep_below hB _ _ y2
        replace y3 := keep_below hB _ _ y3
        have HX := Lib.hid hx
        have HY := Lib.hid hy
        clear hx hy
        go_wp2
        refine wp_region_quiet_lit (by kernel_rfl) (by kernel_rfl) ?_
        repeat (go_big_quiet_step (fail))
        go_big_quiet_want
        refine quiet_neq 41 41 _ _ _ _ (decide (x = y)) rfl rfl rfl (by kernel_rfl) (eq41 x y) ?_
        simp only [Act.put, List.setIfInBounds_toArray, List.set_cons_zero, List.set_cons_succ]
        go_big_quiet_on
        refine wpQuiet_nil ?_
        rintro _ ⟨nq, rfl⟩
        have hB2 := below_step hB (below_drewNg wr nq)
        generalize wr.drewN nq = w2 at hB2 ⊢
        by_cases hxy : x = y
        · rw [decide_eq_true hxy]
          go_wp2
          refine ⟨⟨k + 1, by omega, by go_num, hB2, Lib.hid fun j hj => ?_⟩, by simp [intOf]; omega⟩
          by_cases e : j = k
          · rw [e, HX.out, HY.out, hxy]
          · exact HQ.out j (by omega)
        · rw [decide_eq_false hxy]
          go_wp2
          go_ret
          refine ⟨ret_bool ?_, hB2⟩
          symm
          rw [decide_eq_false_iff_not]
          intro e
          have h1 := HX.out
          rw [e, HY.out] at h1
          exact hxy (Option.some.inj h1).symm
      · obtain rfl : k = n1 := by omega
        go_wp2
        go_ret
        exact ⟨ret_bool (by symm; rw [decide_eq_true_eq]; exact nth_eq l m (by rw [HN1.out, HN2.out]) (by rw [HN1.out]; exact HQ.out)), hB⟩
  · go_enter Tryd.func11, Tryd.ntmps11
    go_wp2
    go_ret
    exact ⟨ret_bool (by symm; rw [decide_eq_false_iff_not]; intro e; exact hnn (by rw [← HN1.out, ← HN2.out, e])), Below.refl _ _⟩
end Go.Proofs.YtblbcdofiheikaaDoor
