import Derived.Test.YtjodidkjpdjmoaaDoorRput
import Derived.Deep.RegionHeld3
import Derived.Laws.StructEq
import Derived.BigQuiet
namespace Go.Proofs.YtjodidkjpdjmoaaDoor
open Go.RowKit

/-- Two arrays of integers are the same where all of them are. -/
theorem run_eq_ints {P : Program} (d : Nat) (t e : TypeId) (k k' : IntKind) (n : Nat) (ht : P.underlying t = some (.array n e)) (he : P.underlying e = some (.int k')) (hsz : ∀ w, (sizeOf e).run P w = .ok 1 w)
    (f g : Nat → Int) (xs ys : Array Value) (hx : ∀ i, i < n → xs[i]? = some (.int k (f i))) (hy : ∀ i, i < n → ys[i]? = some (.int k (g i))) (w : World) :
    (Op.equalIn (d + 2) t (.agg xs) (.agg ys)).run P w = .ok ((List.range n).all fun i => f i == g i) w := by
  rw [List.range_eq_range', Op.equalIn]
  simp only [Sem.run_bind, run_underlying ht, Result.andThen_ok, hsz, Std.Legacy.Range.forIn_eq_forIn_range', Std.Legacy.Range.size, Nat.sub_zero, Nat.add_sub_cancel, Nat.div_one]
  have hl : ∀ i ∈ List.range' 0 n 1, i < n := fun i hi => by simpa using (List.mem_range'_1.1 hi).2
  generalize List.range' 0 n 1 = l at hl ⊢
  induction l with
  | nil => simp
  | cons i l ih =>
    have hi : i < n := hl i (by simp)
    have px : (part e xs (i * 1)).run P w = .ok (.int k (f i)) w := by simp [part, isAgg, run_underlying he, hx i hi]
    have py : (part e ys (i * 1)).run P w = .ok (.int k (g i)) w := by simp [part, isAgg, run_underlying he, hy i hi]
    have pe : (Op.equalIn (d + 1) e (.int k (f i)) (.int k (g i))).run P w = .ok (f i == g i) w := run_equalIn_int w d e k k' _ _ he
    simp only [List.forIn_cons, Sem.run_bind, px, py, pe, Result.andThen_ok, List.all_cons]
    cases hb : (f i == g i)
    · simp
    · simp only [Bool.not_true, Bool.false_eq_true, if_false, Sem.run_pure, Result.andThen_ok, Bool.true_and]
      exact ih fun j hj => hl j (by simp [hj])

def intCells (k : IntKind) (n : Nat) (f : Nat → Int) : List Value := (List.range n).map fun i => .int k (f i)
theorem intCells_len (k : IntKind) (n : Nat) (f : Nat → Int) : (intCells k n f).length = n := by simp [intCells]
theorem intCells_at {k : IntKind} {n : Nat} {f : Nat → Int} {i : Nat} (h : i < n) : (intCells k n f)[i]? = some (.int k (f i)) := by simp [intCells, h]
theorem rangeAt_ints {w : World} {b o : Nat} {k : IntKind} {n : Nat} {f : Nat → Int} (h : ∀ i, i < n → w.cell? ⟨b, o + i, none⟩ = some (.int k (f i))) : w.rangeAt b o (intCells k n f) := fun j v hv => by
  have hj : j < n := by have := (List.getElem?_eq_some_iff.1 hv).1; rwa [intCells_len] at this
  rw [intCells_at hj] at hv
  cases hv
  exact h j hj
theorem size61 : (Tryd.prog.info? 61).map (·.size) = some 65536 := by kernel_rfl

section
variable {P : Program} {ops : Array Oper} {C : World → Prop}
theorem quiet_load {K : Act → Prop} {a : Act} {o : Oper} (ty : TypeId) (x : Operand) (v : Value) (h : o.op = .load ty x)
    (hl : ∀ w, C w → (Instr.loadAt ty (a.eval x)).run P w = .ok v w) (hk : K (a.put o.dst v)) : o.quiet P a C K :=
  ⟨v, fun w hw => by
    unfold Oper.quietAt execOp
    simp only [h, Sem.run_bind, hl w hw, Result.andThen_ok, Sem.run_pure]
    exact ⟨rfl, rfl⟩, hk⟩
theorem quiet_eql {K : Act → Prop} {a : Act} {o : Oper} (ty ty' : TypeId) (x y : Operand) (xs ys : Array Value) (b : Bool) (h : o.op = .binOp .eql ty x y ty') (hx : a.eval x = .agg xs) (hy : a.eval y = .agg ys)
    (hm : P.eqGuardType P.depth ty = false)
    (hl : ∀ w, (Op.equalIn 10000 ty (.agg xs) (.agg ys)).run P w = .ok b w) (hk : K (a.put o.dst (.bool b))) : o.quiet P a C K :=
  ⟨.bool b, fun w hw => by
    unfold Oper.quietAt execOp
    simp only [h, hx, hy, Sem.run_bind, run_eqGuard_agg (hm := hm), run_eql_struct, hl, Result.andThen_ok, Sem.run_pure]
    exact ⟨rfl, rfl⟩, hk⟩
end

set_option maxRecDepth 100000 in
set_option maxHeartbeats 4000000 in
theorem same_walk (b c : Nat) (w : World) (X1 X2 Y1 Y2 : Array Value) (x y : Bool)
    (h1 : ∀ n, (Instr.loadAt 60 (.pointer (some ⟨b, 0, none⟩))).run Tryd.prog (w.drewN n) = .ok (.agg X1) (w.drewN n))
    (h2 : ∀ n, (Instr.loadAt 60 (.pointer (some ⟨c, 0, none⟩))).run Tryd.prog (w.drewN n) = .ok (.agg X2) (w.drewN n))
    (h3 : ∀ n, (Instr.loadAt 61 (.pointer (some ⟨b, 1024, none⟩))).run Tryd.prog (w.drewN n) = .ok (.agg Y1) (w.drewN n))
    (h4 : ∀ n, (Instr.loadAt 61 (.pointer (some ⟨c, 1024, none⟩))).run Tryd.prog (w.drewN n) = .ok (.agg Y2) (w.drewN n))
    (e1 : ∀ w, (Op.equalIn 10000 60 (.agg X1) (.agg X2)).run Tryd.prog w = .ok x w) (e2 : ∀ w, (Op.equalIn 10000 61 (.agg Y1) (.agg Y2)).run Tryd.prog w = .ok y w) :
    Calls Tryd.prog 20 #[.pointer (some ⟨b, 0, none⟩), .pointer (some ⟨c, 0, none⟩)] w fun e w' => e = .returned (.bool (x && y)) ∧ ∃ n, w' = w.drewN n := by
  have k1 : Hid (∀ n, (Instr.loadAt 60 (.pointer (some ⟨b, 0, none⟩))).run Tryd.prog (w.drewN n) = .ok (.agg X1) (w.drewN n)) := h1
  have k2 : Hid (∀ n, (Instr.loadAt 60 (.pointer (some ⟨c, 0, none⟩))).run Tryd.prog (w.drewN n) = .ok (.agg X2) (w.drewN n)) := h2
  have k3 : Hid (∀ n, (Instr.loadAt 61 (.pointer (some ⟨b, 1024, none⟩))).run Tryd.prog (w.drewN n) = .ok (.agg Y1) (w.drewN n)) := h3
  have k4 : Hid (∀ n, (Instr.loadAt 61 (.pointer (some ⟨c, 1024, none⟩))).run Tryd.prog (w.drewN n) = .ok (.agg Y2) (w.drewN n)) := h4
  have k5 : Hid (∀ w, (Op.equalIn 10000 60 (.agg X1) (.agg X2)).run Tryd.prog w = .ok x w) := e1
  have k6 : Hid (∀ w, (Op.equalIn 10000 61 (.agg Y1) (.agg Y2)).run Tryd.prog w = .ok y w) := e2
  clear h1 h2 h3 h4 e1 e2
  cases x with
  | true =>
    go_enter Tryd.func20, Tryd.ntmps20
    go_wp2
    refine wp_region_quiet_lit (by kernel_rfl) (by kernel_rfl) ?_
    go_big_quiet_step (fail)
    go_big_quiet_step (fail)
    go_big_quiet_step (fail)
    go_big_quiet_want
    refine quiet_load 60 _ (.agg X1) rfl ?_ ?_
    · rintro w' ⟨n, rfl⟩; exact k1 n
    simp only [Act.put, List.setIfInBounds_toArray, List.set_cons_zero, List.set_cons_succ]
    go_big_quiet_on
    go_big_quiet_step (fail)
    go_big_quiet_step (fail)
    go_big_quiet_step (fail)
    go_big_quiet_want
    refine quiet_load 60 _ (.agg X2) rfl ?_ ?_
    · rintro w' ⟨n, rfl⟩; exact k2 n
    simp only [Act.put, List.setIfInBounds_toArray, List.set_cons_zero, List.set_cons_succ]
    go_big_quiet_on
    go_big_quiet_want
    refine quiet_eql 60 60 _ _ X1 X2 true rfl rfl rfl (by kernel_rfl) k5 ?_
    simp only [Act.put, List.setIfInBounds_toArray, List.set_cons_zero, List.set_cons_succ]
    go_big_quiet_on
    go_big_quiet_step (fail)
    go_big_quiet_step (fail)
    go_big_quiet_step (fail)
    go_big_quiet_step (fail)
    go_big_quiet_want
    refine quiet_load 61 _ (.agg Y1) rfl ?_ ?_
    · rintro w' ⟨n, rfl⟩; exact k3 n
    simp only [Act.put, List.setIfInBounds_toArray, List.set_cons_zero, List.set_cons_succ]
    go_big_quiet_on
    go_big_quiet_step (fail)
    go_big_quiet_step (fail)
    go_big_quiet_step (fail)
    go_big_quiet_want
    refine quiet_load 61 _ (.agg Y2) rfl ?_ ?_
    · rintro w' ⟨n, rfl⟩; exact k4 n
    simp only [Act.put, List.setIfInBounds_toArray, List.set_cons_zero, List.set_cons_succ]
    go_big_quiet_on
    go_big_quiet_want
    refine quiet_eql 61 61 _ _ Y1 Y2 y rfl rfl rfl (by kernel_rfl) k6 ?_
    simp only [Act.put, List.setIfInBounds_toArray, List.set_cons_zero, List.set_cons_succ]
    go_big_quiet_on
    go_big_quiet_step (fail)
    go_big_quiet_step (fail)
    refine wpQuiet_nil ?_
    rintro _ ⟨nq, rfl⟩
    go_wp2
    go_ret
    exact ⟨rfl, nq, rfl⟩
  | false =>
    go_enter Tryd.func20, Tryd.ntmps20
    go_wp2
    refine wp_region_quiet_lit (by kernel_rfl) (by kernel_rfl) ?_
    go_big_quiet_step (fail)
    go_big_quiet_step (fail)
    go_big_quiet_step (fail)
    go_big_quiet_want
    refine quiet_load 60 _ (.agg X1) rfl ?_ ?_
    · rintro w' ⟨n, rfl⟩; exact k1 n
    simp only [Act.put, List.setIfInBounds_toArray, List.set_cons_zero, List.set_cons_succ]
    go_big_quiet_on
    go_big_quiet_step (fail)
    go_big_quiet_step (fail)
    go_big_quiet_step (fail)
    go_big_quiet_want
    refine quiet_load 60 _ (.agg X2) rfl ?_ ?_
    · rintro w' ⟨n, rfl⟩; exact k2 n
    simp only [Act.put, List.setIfInBounds_toArray, List.set_cons_zero, List.set_cons_succ]
    go_big_quiet_on
    go_big_quiet_want
    refine quiet_eql 60 60 _ _ X1 X2 false rfl rfl rfl (by kernel_rfl) k5 ?_
    simp only [Act.put, List.setIfInBounds_toArray, List.set_cons_zero, List.set_cons_succ]
    go_big_quiet_on
    go_big_quiet_step (fail)
    go_big_quiet_step (fail)
    go_big_quiet_step (fail)
    go_big_quiet_step (fail)
    go_big_quiet_step (fail)
    go_big_quiet_step (fail)
    go_big_quiet_step (fail)
    go_big_quiet_step (fail)
    go_big_quiet_step (fail)
    go_big_quiet_step (fail)
    go_big_quiet_step (fail)
    go_big_quiet_step (fail)
    refine wpQuiet_nil ?_
    rintro _ ⟨nq, rfl⟩
    go_wp2
    go_ret
    exact ⟨rfl, nq, rfl⟩

/-- Are two lists the same? -/
noncomputable def sameL (xs ys : List Ent) : Bool := @decide (xs = ys) (Classical.propDecidable _)
theorem sameL_iff {xs ys : List Ent} : sameL xs ys = true ↔ xs = ys := @decide_eq_true_iff _ (Classical.propDecidable _)
theorem sameL_self (xs : List Ent) : sameL xs xs = true := sameL_iff.2 rfl
/-- Two images are the same where their lists are. -/
theorem same_bool {W : World} {b c : Nat} {g g' : Nat → Option Int} {M M' : Nat → Nat} (h1 : Img W b g M) (h2 : Img W c g' M') :
    (((List.range 1024).all fun i => ((M i : Nat) : Int) == (M' i : Nat)) && ((List.range 65536).all fun i => (g i).getD 0 == (g' i).getD 0)) = sameL (lst g) (lst g') := by
  rw [Bool.eq_iff_iff, Bool.and_eq_true, List.all_eq_true, List.all_eq_true, sameL_iff]
  constructor
  · rintro ⟨hm, hv⟩
    refine seg_congr fun a _ ha => ?_
    have ha' : a < 65536 := by omega
    have e1 := hm (a / 64) (List.mem_range.2 (by omega))
    have e1' : M (a / 64) = M' (a / 64) := Int.ofNat_inj.1 (eq_of_beq e1)
    have e2 := hv a (List.mem_range.2 ha')
    have b1 := h1.mks.bits (a / 64) (by omega) (a % 64)
    have b2 := h2.mks.bits (a / 64) (by omega) (a % 64)
    rw [e1', b2, show 64 * (a / 64) + a % 64 = a by omega, decide_eq_true (show a % 64 < 64 by omega), Bool.true_and, Bool.true_and] at b1
    cases h : g a <;> cases h' : g' a <;> simp_all
  · intro hl
    have hg : ∀ a, a < 65536 → g a = g' a := fun a ha => by
      cases h : g a with
      | some v =>
        have h3 : (⟨a, v, ha⟩ : Ent) ∈ lst g := mem_lst.2 h
        rw [hl] at h3
        exact (mem_lst.1 h3).symm
      | none =>
        cases h' : g' a with
        | none => rfl
        | some v =>
          have h3 : (⟨a, v, ha⟩ : Ent) ∈ lst g' := mem_lst.2 h'
          rw [← hl] at h3
          have h4 : g a = some v := mem_lst.1 h3
          rw [h] at h4
          cases h4
    refine ⟨fun k hk => ?_, fun a ha => ?_⟩
    · have hk' : k < 1024 := List.mem_range.1 hk
      have : M k = M' k := Nat.eq_of_testBit_eq fun i => by
        rw [h1.mks.bits k hk' i, h2.mks.bits k hk' i]
        by_cases hi : i < 64
        · rw [hg (64 * k + i) (by omega)]
        · rw [decide_eq_false hi, Bool.false_and, Bool.false_and]
      rw [this]; exact beq_self_eq_true _
    · rw [hg a (List.mem_range.1 ha)]; exact beq_self_eq_true _

theorem load_ints60 {w : World} {b : Nat} {f : Nat → Int} (h : ∀ i, i < 1024 → w.cell? ⟨b, i, none⟩ = some (.int .u64 (f i))) (n : Nat) :
    (Instr.loadAt 60 (.pointer (some ⟨b, 0, none⟩))).run Tryd.prog (w.drewN n) = .ok (.agg (intCells .u64 1024 f).toArray) (w.drewN n) :=
  run_loadAt_mid (P := Tryd.prog) (w.drewN n) b 0 60 (intCells .u64 1024 f) _ (rangeAt_ints fun i hi => by rw [Nat.zero_add]; exact h i hi) Tryd.underlying60 rfl (by rw [intCells_len]; exact size60)
theorem load_ints61 {w : World} {b : Nat} {f : Nat → Int} (h : ∀ i, i < 65536 → w.cell? ⟨b, 1024 + i, none⟩ = some (.int .u8 (f i))) (n : Nat) :
    (Instr.loadAt 61 (.pointer (some ⟨b, 1024, none⟩))).run Tryd.prog (w.drewN n) = .ok (.agg (intCells .u8 65536 f).toArray) (w.drewN n) :=
  run_loadAt_mid (P := Tryd.prog) (w.drewN n) b 1024 61 (intCells .u8 65536 f) _ (rangeAt_ints h) Tryd.underlying61 rfl (by rw [intCells_len]; exact size61)

theorem same_img {w : World} {b c : Nat} {g g' : Nat → Option Int} {M M' : Nat → Nat} (h1 : Img w b g M) (h2 : Img w c g' M') :
    Calls Tryd.prog 20 #[.pointer (some ⟨b, 0, none⟩), .pointer (some ⟨c, 0, none⟩)] w fun e w' => e = .returned (.bool (sameL (lst g) (lst g'))) ∧ ∃ n, w' = w.drewN n := by
  rw [← same_bool h1 h2]
  refine same_walk b c w _ _ _ _ _ _ (load_ints60 h1.mks.marks) (load_ints60 h2.mks.marks) (load_ints61 h1.vals) (load_ints61 h2.vals) ?_ ?_
  · exact run_eq_ints 9998 60 59 .u64 .u64 1024 Tryd.underlying60 Tryd.underlying59 Tryd.sizeOf59 _ _ _ _ (fun i hi => by rw [List.getElem?_toArray]; exact intCells_at hi) (fun i hi => by rw [List.getElem?_toArray]; exact intCells_at hi)
  · exact run_eq_ints 9998 61 5 .u8 .u8 65536 Tryd.underlying61 Tryd.underlying5 Tryd.sizeOf5 _ _ _ _ (fun i hi => by rw [List.getElem?_toArray]; exact intCells_at hi) (fun i hi => by rw [List.getElem?_toArray]; exact intCells_at hi)
end Go.Proofs.YtjodidkjpdjmoaaDoor
