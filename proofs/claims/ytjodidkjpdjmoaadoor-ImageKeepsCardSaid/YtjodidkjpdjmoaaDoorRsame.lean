import Derived.Test.YtjodidkjpdjmoaaDoorEq
namespace Go.Proofs.YtjodidkjpdjmoaaDoor
open Go.RowKit
theorem sameL_false {xs ys : List Ent} (h : xs ≠ ys) : sameL xs ys = false := by
  rw [Bool.eq_false_iff]; exact fun e => h (sameL_iff.1 e)

theorem under37 : Tryd.prog.underlying 37 = some (.struct (Tryd.prog.fieldsOf 37)) := by kernel_rfl
theorem fields37 : (Tryd.prog.fieldsOf 37).toList = [{ name := "At", type := 23, offset := 0, embedded := false, tag := "", pkgPath := "", byteOffset := 0 }, { name := "B", type := 5, offset := 1, embedded := false, tag := "", pkgPath := "", byteOffset := 2 }] := by kernel_rfl
theorem eq37 (a a' : Nat) (v v' : Int) (w : World) : (Op.equalIn 10000 37 (.agg #[.int .u16 a, .int .u8 v]) (.agg #[.int .u16 a', .int .u8 v'])).run Tryd.prog w = .ok (a == a' && v == v') w := by
  rw [show (10000 : Nat) = 9999 + 1 from rfl, run_equalIn_agg (P := Tryd.prog) w 9999 37 _ _ under37 (by kernel_rfl), fields37]
  have p1 : ∀ a v : Value, (part 23 #[a, v] 0).run Tryd.prog w = .ok a w := fun a v => by simp [part, Tryd.isAgg23]
  have p2 : ∀ a v : Value, (part 5 #[a, v] 1).run Tryd.prog w = .ok v w := fun a v => by simp [part, Tryd.isAgg5]
  have e1 := run_equalIn_int (P := Tryd.prog) w 9998 23 .u16 .u16 a a' Tryd.underlying23
  have e2 := run_equalIn_int (P := Tryd.prog) w 9998 5 .u8 .u8 v v' Tryd.underlying5
  have e3 : ((a : Int) == (a' : Int)) = (a == a') := by rw [Bool.eq_iff_iff, beq_iff_eq, beq_iff_eq]; exact Int.ofNat_inj
  rw [e3] at e1
  have n1 : ("At" : String) ≠ "_" := by decide
  have n2 : ("B" : String) ≠ "_" := by decide
  simp only [Op.eqFields, if_pos n1, if_pos n2, Sem.run_bind, p1, p2, e1, e2, Result.andThen_ok, Sem.run_ite, Sem.run_pure]
  cases a == a' <;> cases v == v' <;> simp
theorem size37 : (Tryd.prog.info? 37).map (·.size) = some 2 := by kernel_rfl
theorem load37 {w : World} {g i : Nat} {a : Nat} {v : Int} (h1 : w.cell? ⟨g, i, none⟩ = some (.int .u16 a)) (h2 : w.cell? ⟨g, i + 1, none⟩ = some (.int .u8 v)) (n : Nat) :
    (Instr.loadAt 37 (.pointer (some ⟨g, i, none⟩))).run Tryd.prog (w.drewN n) = .ok (.agg #[.int .u16 a, .int .u8 v]) (w.drewN n) :=
  run_loadAt_mid (P := Tryd.prog) (w.drewN n) g i 37 [.int .u16 a, .int .u8 v] _ (fun j v' hj => by
    match j, hj with
    | 0, hj => cases hj; exact h1
    | 1, hj => cases hj; exact h2) under37 rfl size37
theorem quiet_neq {P : Program} {C : World → Prop} {K : Act → Prop} {a : Act} {o : Oper} (ty ty' : TypeId) (x y : Operand) (xs ys : Array Value) (b : Bool) (h : o.op = .binOp .neq ty x y ty') (hx : a.eval x = .agg xs) (hy : a.eval y = .agg ys)
    (hm : P.eqGuardType P.depth ty = false)
    (hl : ∀ w, (Op.equalIn 10000 ty (.agg xs) (.agg ys)).run P w = .ok b w) (hk : K (a.put o.dst (.bool (!b)))) : o.quiet P a C K :=
  ⟨.bool (!b), fun w hw => by
    unfold Oper.quietAt execOp
    simp only [h, hx, hy, Sem.run_bind, run_eqGuard_agg (hm := hm), run_neq_struct, hl, Result.andThen_ok, Sem.run_pure]
    exact ⟨rfl, rfl⟩, hk⟩

set_option maxRecDepth 100000 in
set_option maxHeartbeats 2000000 in
theorem rsame_any (va vb : Value) (xs ys : List Ent) (w : World) (hx : xs.length ≤ 65536) (hy : ys.length ≤ 65536) (hA : EntsRead w va xs) (hB : EntsRead w vb ys) :
    Calls Tryd.prog 12 #[va, vb] w fun e w' => e = .returned (.bool (sameL xs ys)) ∧ Below w.heap.size w w' := by
  obtain ⟨ga, sa, ca, rfl, hsa, hca⟩ := hA
  obtain ⟨gb, sb, cb, rfl, hsb, hcb⟩ := hB
  have Ha : Hid (∀ (i : Nat) (x : Ent), xs[i]? = some x → w.cell? ⟨ga, i * 2, none⟩ = some (.int .u16 (x.a : Nat)) ∧ w.cell? ⟨ga, i * 2 + 1, none⟩ = some (.int .u8 x.v)) := hca
  have Hb : Hid (∀ (i : Nat) (x : Ent), ys[i]? = some x → w.cell? ⟨gb, i * 2, none⟩ = some (.int .u16 (x.a : Nat)) ∧ w.cell? ⟨gb, i * 2 + 1, none⟩ = some (.int .u8 x.v)) := hcb
  clear hca hcb
  obtain ⟨m, hm⟩ : ∃ m, m = xs.length := ⟨_, rfl⟩
  obtain ⟨n, hn⟩ : ∃ n, n = ys.length := ⟨_, rfl⟩
  rw [← hm] at hx hsa ⊢
  rw [← hn] at hy hsb ⊢
  have Hm : Hid (m = xs.length) := hm
  have Hn : Hid (n = ys.length) := hn
  clear hm hn
  by_cases hmn : m = n
  · subst hmn
    go_enter Tryd.func12, Tryd.ntmps12
    go_wp2
    go_loopw [5] (fun i wr => ∃ k : Nat, k ≤ m ∧ i = .int .i64 k ∧ Hid (∀ i, i < k → xs[i]? = ys[i]?) ∧ ∃ q, wr = w.drewN q) (fun i _ => m - (intOf i).toNat)
    case atStart => exact ⟨0, Nat.zero_le _, rfl, Hid.mkr (fun i h => absurd h (by omega)), 0, rfl⟩
    case round =>
      obtain ⟨k, hk, rfl, hall, q, rfl⟩ := hrel
      by_cases hlt : k < m
      · obtain rfl := hsa (by omega)
        obtain rfl := hsb (by omega)
        have h1 : k < xs.length := by rw [← Hm.out]; exact hlt
        have h2 : k < ys.length := by rw [← Hn.out]; exact hlt
        obtain ⟨x, hxk⟩ : ∃ x, xs[k]? = some x := ⟨_, List.getElem?_eq_getElem h1⟩
        obtain ⟨y, hyk⟩ : ∃ y, ys[k]? = some y := ⟨_, List.getElem?_eq_getElem h2⟩
        obtain ⟨a1, a2⟩ := Ha.out k x hxk
        obtain ⟨b1, b2⟩ := Hb.out k y hyk
        have hlx := fun n => load37 a1 a2 n
        have hly := fun n => load37 b1 b2 n
        replace hlx : Hid (∀ n, (Instr.loadAt 37 (.pointer (some ⟨ga, k * 2, none⟩))).run Tryd.prog (w.drewN n) = .ok (.agg #[.int .u16 x.a, .int .u8 x.v]) (w.drewN n)) := hlx
        replace hly : Hid (∀ n, (Instr.loadAt 37 (.pointer (some ⟨gb, k * 2, none⟩))).run Tryd.prog (w.drewN n) = .ok (.agg #[.int .u16 y.a, .int .u8 y.v]) (w.drewN n)) := hly
        have hxk' : Hid (xs[k]? = some x) := hxk
        have hyk' : Hid (ys[k]? = some y) := hyk
        clear hxk hyk h1 h2
        go_wp2
        refine wp_region_quiet_lit (by kernel_rfl) (by kernel_rfl) ?_
        go_big_quiet_step (fail)
        go_big_quiet_step (fail)
        go_big_quiet_step (fail)
        go_big_quiet_want
        refine quiet_load 37 _ (.agg #[.int .u16 x.a, .int .u8 x.v]) rfl ?_ ?_
        · rintro w' ⟨q', rfl⟩; rw [World.drewN_drewN]; exact hlx _
        simp only [Act.put, List.setIfInBounds_toArray, List.set_cons_zero, List.set_cons_succ]
        go_big_quiet_on
        go_big_quiet_step (fail)
        go_big_quiet_step (fail)
        go_big_quiet_step (fail)
        go_big_quiet_want
        refine quiet_load 37 _ (.agg #[.int .u16 y.a, .int .u8 y.v]) rfl ?_ ?_
        · rintro w' ⟨q', rfl⟩; rw [World.drewN_drewN]; exact hly _
        simp only [Act.put, List.setIfInBounds_toArray, List.set_cons_zero, List.set_cons_succ]
        go_big_quiet_on
        go_big_quiet_want
        refine quiet_neq 37 37 _ _ _ _ (x.a == y.a && x.v == y.v) rfl rfl rfl (by kernel_rfl) (eq37 _ _ _ _) ?_
        simp only [Act.put, List.setIfInBounds_toArray, List.set_cons_zero, List.set_cons_succ]
        go_big_quiet_on
        refine wpQuiet_nil ?_
        rintro _ ⟨nq, rfl⟩
        by_cases hxy : x = y
        · have hd : (x.a == y.a && x.v == y.v) = true := by rw [hxy]; simp
          rw [hd]
          go_wp2
          go_roundw
          case rel =>
            refine ⟨k + 1, by omega, by go_num, Hid.mkr fun i hi => ?_, q + nq, rfl⟩
            by_cases e : i = k
            · subst e; rw [hxk'.out, hyk'.out, hxy]
            · exact hall.out i (by omega)
          case measure => simp [intOf]; omega
        · have hd : (x.a == y.a && x.v == y.v) = false := by
            rw [Bool.eq_false_iff]
            intro h
            simp at h
            exact hxy (Ent.eq_of h.1 h.2)
          rw [hd]
          go_wp2
          go_ret
          refine ⟨?_, below_drewN (below_drewN (Below.refl _ _) _) _⟩
          rw [sameL_false]; · rfl
          intro e
          have := hxk'.out
          rw [e, hyk'.out] at this
          injection this with this
          exact hxy this.symm
      · obtain rfl : k = m := by omega
        have he : xs = ys := by
          refine List.ext_getElem? fun i => ?_
          by_cases hi : i < k
          · exact hall.out i hi
          · rw [List.getElem?_eq_none (by rw [← Hm.out]; omega), List.getElem?_eq_none (by rw [← Hn.out]; omega)]
        go_wp2
        go_ret
        refine ⟨?_, below_drewN (Below.refl _ _) _⟩
        rw [sameL_iff.2 he]; rfl
  · have hne : sameL xs ys = false := sameL_false fun e => hmn (by rw [Hm.out, Hn.out, e])
    rw [hne]
    have hd : decide ((m : Int) = (n : Int)) = false := decide_eq_false (by omega)
    have hd2 : ((m : Int) == (n : Int)) = false := by simp; omega
    go_enter Tryd.func12, Tryd.ntmps12
    go_wp2
    go_ret
    exact ⟨rfl, Below.refl _ _⟩
end Go.Proofs.YtjodidkjpdjmoaaDoor
