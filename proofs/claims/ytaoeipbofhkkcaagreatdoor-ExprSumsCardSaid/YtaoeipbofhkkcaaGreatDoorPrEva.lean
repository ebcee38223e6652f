/- What the program's apply of expressions does when it is called. What the program's ask of expressions does when it is called: with no value, and with a closure that finds a symbol in a list. What the closure in the program's Eval of expressions does when it is called, at a right expression. What the program's Eval of expressions does when it is called. -/
import Derived.Test.YtaoeipbofhkkcaaGreatDoorExTwo
import Derived.Test.YtaoeipbofhkkcaaGreatDoorExRgtb
import Derived.Defers
import Derived.Recover
import Derived.Laws.Pointers
import Derived.Test.YtaoeipbofhkkcaaGreatDoorPrRgt
import Derived.Test.YtaoeipbofhkkcaaGreatDoorExEva
namespace Go.Proofs.YtaoeipbofhkkcaaGreatDoor
open Go.RowKit Go.Proofs.NumMath

theorem w16 (z : Int) : IntKind.u16.wrap z = z % 65536 := by
  have h := IntWalk.u16_in (z % 65536) (by omega)
  rw [← h]
  simp [IntKind.wrap, IntKind.bits, IntKind.signed]
theorem ap_add (a b : Nat) : IntKind.u16.wrap ((a : Int) + b) = ((two16 .add a b).1 : Nat) := by rw [w16]; simp only [two16]; omega
theorem ap_sub (a b : Nat) (hb : b ≤ 65535) : IntKind.u16.wrap ((a : Int) - b) = ((two16 .sub a b).1 : Nat) := by rw [w16]; simp only [two16]; omega
theorem ap_mul (a b : Nat) : IntKind.u16.wrap ((a : Int) * b) = ((two16 .mul a b).1 : Nat) := by rw [w16]; simp only [two16]; omega
theorem ap_shl (a b : Nat) : IntKind.u16.wrap ((a : Int) * 2 ^ min b 16) = ((two16 .shl a b).1 : Nat) := by
  rw [w16]
  simp only [two16]
  by_cases h : b < 16
  · rw [if_pos h, show min b 16 = b by omega]; simp
  · rw [if_neg h, show min b 16 = 16 by omega]; simp
theorem ap_shr (a b : Nat) (ha : a ≤ 65535) : ((a : Int) / 2 ^ min b 16) = ((two16 .shr a b).1 : Nat) := by
  simp only [two16]
  by_cases h : b < 16
  · rw [if_pos h, show min b 16 = b by omega]; simp
  · rw [if_neg h, show min b 16 = 16 by omega]; simp; omega
theorem ap_neg (a : Nat) (ha : a ≤ 65535) : IntKind.u16.wrap (-(a : Int)) = ((one16 .neg a) : Nat) := by rw [w16]; simp only [one16]; omega
theorem xor_all (a : Nat) (ha : a ≤ 65535) : 65535 ^^^ a = 65535 - a := by
  have h := BitVec.toNat_not (x := BitVec.ofNat 16 a)
  rw [BitVec.not_def, BitVec.toNat_xor, BitVec.toNat_allOnes, BitVec.toNat_ofNat, Nat.mod_eq_of_lt (by omega)] at h
  simpa using h
theorem ap_inv (a : Nat) (ha : a ≤ 65535) : bits BinOp.xor IntKind.u16 IntKind.u16.max (a : Int) = ((one16 .inv a) : Nat) := by
  have h : IntKind.u16.max = ((65535 : Nat) : Int) := by decide
  rw [h, bits_xor16 65535 a (by omega) ha, xor_all a ha]
  rfl
theorem cells_two {W : World} {k : Nat} {u0 u1 : Value} {t : TypeId} {fr : Nat × Nat} (h : W.heap[k]? = some (.cells #[u0, u1] t fr)) :
    W.cell? ⟨k, 0, none⟩ = some u0 ∧ W.cell? ⟨k, 1, none⟩ = some u1 := by simp [World.cell?, h]
set_option maxHeartbeats 4000000 in
theorem apply_two (o : O2) (a b : Nat) (ha : a ≤ 65535) (hb : b ≤ 65535) (w : World) : Calls Tryz.prog 27 #[.string ⟨(txt2 o).toArray⟩, .agg #[.int .u16 a, .int .u16 b]] w fun e w' =>
    e = .returned (.tuple #[.int .u16 ((two16 o a b).1 : Nat), .int .i64 ((two16 o a b).2 : Nat)]) ∧ Below w.heap.size w w' := by
  cases o
  case shl =>
    dsimp only [txt2]
    go_enter Tryz.func27, Tryz.ntmps27
    go_wp2
    have hB := box_below w (Obj.cells #[Value.int .u16 a, Value.int .u16 b] 54)
    obtain ⟨c0, c1⟩ := cells_two (heap_alloc_new w (Obj.cells #[Value.int .u16 a, Value.int .u16 b] 54))
    generalize w.alloc (Obj.cells #[Value.int .u16 a, Value.int .u16 b] 54) = w0 at hB c0 c1 ⊢
    go_quiet (fail)
    go_wp2
    go_ret2
    exact ⟨ret_two (ap_shl a b) (by rw [two_shl]; rfl), below_drewN hB _⟩
  case shr =>
    dsimp only [txt2]
    go_enter Tryz.func27, Tryz.ntmps27
    go_wp2
    have hB := box_below w (Obj.cells #[Value.int .u16 a, Value.int .u16 b] 54)
    obtain ⟨c0, c1⟩ := cells_two (heap_alloc_new w (Obj.cells #[Value.int .u16 a, Value.int .u16 b] 54))
    generalize w.alloc (Obj.cells #[Value.int .u16 a, Value.int .u16 b] 54) = w0 at hB c0 c1 ⊢
    go_quiet (fail)
    go_wp2
    go_ret2
    exact ⟨ret_two (ap_shr a b ha) (by rw [two_shr]; rfl), below_drewN hB _⟩
  case div =>
    dsimp only [txt2]
    go_enter Tryz.func27, Tryz.ntmps27
    go_wp2
    have hB := box_below w (Obj.cells #[Value.int .u16 a, Value.int .u16 b] 54)
    obtain ⟨c0, c1⟩ := cells_two (heap_alloc_new w (Obj.cells #[Value.int .u16 a, Value.int .u16 b] 54))
    generalize w.alloc (Obj.cells #[Value.int .u16 a, Value.int .u16 b] 54) = w0 at hB c0 c1 ⊢
    go_quiet (fail)
    by_cases h0 : b = 0
    · subst h0
      have hbz : (((0 : Nat) : Int) == 0) = true := by decide
      go_wp2
      go_ret2
      exact ⟨rfl, below_drewN hB _⟩
    · have hbz : ((b : Int) == 0) = false := by rw [beq_eq_false_iff_ne]; omega
      have hb0 : ¬ (b : Int) = 0 := by omega
      go_wp2
      go_ret2
      exact ⟨ret_two ((two_div a b ha).trans (by simp [two16, h0])) (by simp [two16, h0]), below_drewN hB _⟩
  case mod =>
    dsimp only [txt2]
    go_enter Tryz.func27, Tryz.ntmps27
    go_wp2
    have hB := box_below w (Obj.cells #[Value.int .u16 a, Value.int .u16 b] 54)
    obtain ⟨c0, c1⟩ := cells_two (heap_alloc_new w (Obj.cells #[Value.int .u16 a, Value.int .u16 b] 54))
    generalize w.alloc (Obj.cells #[Value.int .u16 a, Value.int .u16 b] 54) = w0 at hB c0 c1 ⊢
    go_quiet (fail)
    by_cases h0 : b = 0
    · subst h0
      have hbz : (((0 : Nat) : Int) == 0) = true := by decide
      go_wp2
      go_ret2
      exact ⟨rfl, below_drewN hB _⟩
    · have hbz : ((b : Int) == 0) = false := by rw [beq_eq_false_iff_ne]; omega
      have hb0 : ¬ (b : Int) = 0 := by omega
      go_wp2
      go_ret2
      exact ⟨ret_two ((Int.natCast_emod a b).symm.trans (by simp [two16, h0])) (by simp [two16, h0]), below_drewN hB _⟩
  all_goals
    dsimp only [txt2]
    go_enter Tryz.func27, Tryz.ntmps27
    go_wp2
    have hB := box_below w (Obj.cells #[Value.int .u16 a, Value.int .u16 b] 54)
    obtain ⟨c0, c1⟩ := cells_two (heap_alloc_new w (Obj.cells #[Value.int .u16 a, Value.int .u16 b] 54))
    generalize w.alloc (Obj.cells #[Value.int .u16 a, Value.int .u16 b] 54) = w0 at hB c0 c1 ⊢
    go_quiet (fail)
    go_wp2
    go_ret2
    refine ⟨?_, below_drewN hB _⟩
    first
      | exact ret_two (bits_or16 a b ha hb) rfl
      | exact ret_two (bits_xor16 a b ha hb) rfl
      | exact ret_two (bits_and16 a b ha hb) rfl
      | exact ret_two (ap_add a b) rfl
      | exact ret_two (ap_sub a b hb) rfl
      | exact ret_two (ap_mul a b) rfl
set_option maxHeartbeats 4000000 in
theorem apply_one (o : O1) (a b : Nat) (ha : a ≤ 65535) (w : World) : Calls Tryz.prog 27 #[.string ⟨(txt1 o).toArray⟩, .agg #[.int .u16 a, .int .u16 b]] w fun e w' =>
    e = .returned (.tuple #[.int .u16 ((one16 o a) : Nat), .int .i64 0]) ∧ Below w.heap.size w w' := by
  cases o
  all_goals
    dsimp only [txt1]
    go_enter Tryz.func27, Tryz.ntmps27
    go_wp2
    have hB := box_below w (Obj.cells #[Value.int .u16 a, Value.int .u16 b] 54)
    obtain ⟨c0, c1⟩ := cells_two (heap_alloc_new w (Obj.cells #[Value.int .u16 a, Value.int .u16 b] 54))
    generalize w.alloc (Obj.cells #[Value.int .u16 a, Value.int .u16 b] 54) = w0 at hB c0 c1 ⊢
    go_quiet (fail)
    go_wp2
    go_ret2
    refine ⟨?_, below_drewN hB _⟩
    first
      | exact ret_two (ap_inv a ha) rfl
      | exact ret_two (ap_neg a ha) rfl
end Go.Proofs.YtaoeipbofhkkcaaGreatDoor
namespace Go.Proofs.YtaoeipbofhkkcaaGreatDoor
open Go.RowKit Go.Proofs.NumMath

theorem catch_idle (p q : Addr) (w : World) :
    CallsD Tryz.prog 37 #[.pointer (some p), .pointer (some q)] .returning w fun e u' w' => e = .returned (.tuple #[]) ∧ u' = .returning ∧ w' = w := by
  refine callsD_of_wpS Tryz.func37 rfl fun c₀ cs hu => ?_
  apply wpS_seq
  apply wpS_region
  simp [wpOpsS, go_sem, recoverD, hu, Tryz.ntmps37, Exit.thenS]
  refine wpS_cond (t := false) (by simp [Act.eval, Array.replicate]) ?_
  simp only [Bool.false_eq_true, if_false]
  refine wpS_of_wp (wp_skip ?_)
  cases c₀
  simp_all [bodyPostS, results, Tryz.results37]
theorem nil_nil (w : World) : Sem.run Tryz.prog (binOp BinOp.eql 33 .nilFunc .nilFunc) w = .ok (.bool true) w := by
  have h : ∀ d : Nat, (Op.equalIn (d + 1) 33 .nilFunc .nilFunc).run Tryz.prog w = .ok true w := fun d => by
    simp [Op.equalIn, run_underlying Tryz.underlying33, go_sem]
  simp only [binOp]
  simp [Op.equal, Op.maxDepth, h 9999]
theorem nil_fun (f : Fn) (a b : Array Value) (w : World) : Sem.run Tryz.prog (binOp BinOp.eql 33 (.func f a b) .nilFunc) w = .ok (.bool false) w := by
  have h : ∀ d : Nat, (Op.equalIn (d + 1) 33 (.func f a b) .nilFunc).run Tryz.prog w = .ok false w := fun d => by
    simp [Op.equalIn, run_underlying Tryz.underlying33, go_sem]
  simp only [binOp]
  simp [Op.equal, Op.maxDepth, h 9999]
theorem below_2o (w : World) (o1 o2 : Obj) : Below w.heap.size w ((w.alloc o1).alloc o2) := (box_below w o1).alloc (box_below w o1).size o2
set_option maxRecDepth 100000 in
set_option maxHeartbeats 1000000 in
theorem ask_nil (s : ByteArray) (w : World) : Calls Tryz.prog 26 #[.nilFunc, .string s] w fun e w' => e = .returned (.tuple #[.int .u16 0, .int .i64 3]) ∧ Below w.heap.size w w' := by
  have hmf : ∀ (fn : Fn) (first cap : Array Value) (w : World), (Instr.makeFunc fn first cap).run Tryz.prog w = .ok (.func fn first cap) w := fun _ _ _ _ => rfl
  have hnn := nil_nil
  go_enter_defers Tryz.func26, Tryz.ntmps26
  go_wp2
  refine leaves_cons (f := 37) (args := #[.pointer (some ⟨w.heap.size, 0, none⟩), .pointer (some ⟨w.heap.size + 1, 0, none⟩)]) (by simp) (by simp [go_sem]) ?_
  refine (catch_idle _ _ _).mono ?_
  rintro e u' w'' ⟨rfl, rfl, rfl⟩
  simp [Leaves, settle, results, Tryz.results26, go_sem]
  exact below_2o _ _ _
/-- the closure that finds a symbol -/
theorem evals1_any (p : Addr) (vs : Value) (l : List (List UInt8 × Nat)) (s : List UInt8) (w : World) (hp : w.cell? p = some vs) (h : SymR w vs l) (hl : l.length ≤ 1000000) : Calls Tryz.prog 11 #[.string ⟨s.toArray⟩, .pointer (some p)] w fun e w' => e = .returned (.tuple #[.int .u16 ((findL l s).1 : Nat), .int .i64 ((findL l s).2 : Nat)]) ∧ w' = w := by
  have hf := find_any vs l s w h hl
  go_enter Tryz.func11, Tryz.ntmps11
  go_wp2_with (go_at_call 12; refine hf.mono ?_; rintro e w' ⟨rfl, rfl⟩)
  go_ret2
  exact ⟨rfl, rfl⟩
theorem findL_none (l : List (List UInt8 × Nat)) (s : List UInt8) : (findL l s).2 = 0 ∨ findL l s = (0, 3) := by
  unfold findL
  split
  · exact .inl rfl
  · exact .inr rfl
set_option maxRecDepth 100000 in
set_option maxHeartbeats 1000000 in
theorem ask_sym (p : Addr) (vs : Value) (l : List (List UInt8 × Nat)) (s : List UInt8) (w : World) (hp : w.cell? p = some vs) (h : SymR w vs l) (hl : l.length ≤ 1000000) : Calls Tryz.prog 26 #[.func (.func 11) #[] #[.pointer (some p)], .string ⟨s.toArray⟩] w fun e w' => e = .returned (.tuple #[.int .u16 ((findL l s).1 : Nat), .int .i64 ((findL l s).2 : Nat)]) ∧ Below w.heap.size w w' := by
  have hmf : ∀ (fn : Fn) (first cap : Array Value) (w : World), (Instr.makeFunc fn first cap).run Tryz.prog w = .ok (.func fn first cap) w := fun _ _ _ _ => rfl
  have hnn := nil_fun
  have hB := below_2o w (Obj.cells #[Value.int .u16 0] 22) (Obj.cells #[Value.int .i64 0] 29)
  have hc := evals1_any p vs l s _ (keep_bel hB _ _ hp) (h.below hB) hl
  obtain ⟨n, hn⟩ : ∃ n, (findL l s).1 = n := ⟨_, rfl⟩
  obtain ⟨k, hk⟩ : ∃ k, (findL l s).2 = k := ⟨_, rfl⟩
  rw [hn, hk] at hc ⊢
  have hnk : k = 0 ∨ (n = 0 ∧ k = 3) := by
    rcases findL_none l s with h | h
    · exact .inl (hk.symm.trans h)
    · rw [h] at hn hk; exact .inr ⟨hn.symm, hk.symm⟩
  clear hn hk h hp
  rcases hnk with rfl | ⟨rfl, rfl⟩
  · skip
    go_enter_defers Tryz.func26, Tryz.ntmps26
    go_wp2_with (go_at_call 11; refine hc.mono ?_; rintro e w' ⟨rfl, rfl⟩)
    refine leaves_cons (f := 37) (args := #[.pointer (some ⟨w.heap.size, 0, none⟩), .pointer (some ⟨w.heap.size + 1, 0, none⟩)]) (by simp) (by simp [go_sem]) ?_
    refine (catch_idle _ _ _).mono ?_
    rintro e u' w'' ⟨rfl, rfl, rfl⟩
    simp [Leaves, settle, results, Tryz.results26, go_sem]
    exact below_2o _ _ _
  · replace hc : Calls Tryz.prog 11 #[.string ⟨s.toArray⟩, .pointer (some p)] ((w.alloc (Obj.cells #[Value.int .u16 0] 22)).alloc (Obj.cells #[Value.int .i64 0] 29)) fun e w' => e = .returned (.tuple #[.int .u16 0, .int .i64 3]) ∧ w' = (w.alloc (Obj.cells #[Value.int .u16 0] 22)).alloc (Obj.cells #[Value.int .i64 0] 29) := hc
    show Calls Tryz.prog 26 #[.func (.func 11) #[] #[.pointer (some p)], .string ⟨s.toArray⟩] w fun e w' => e = .returned (.tuple #[.int .u16 0, .int .i64 3]) ∧ Below w.heap.size w w'
    go_enter_defers Tryz.func26, Tryz.ntmps26
    go_wp2_with (go_at_call 11; refine hc.mono ?_; rintro e w' ⟨rfl, rfl⟩)
    go_region
    go_wp2
    refine leaves_cons (f := 37) (args := #[.pointer (some ⟨w.heap.size, 0, none⟩), .pointer (some ⟨w.heap.size + 1, 0, none⟩)]) (by simp) (by simp [go_sem]) ?_
    refine (catch_idle _ _ _).mono ?_
    rintro e u' w'' ⟨rfl, rfl, rfl⟩
    simp [Leaves, settle, results, Tryz.results26, go_sem]
    exact (below_2o _ _ _).drew
/-- what ask says of names from here on -/
def AskAt (fv : Value) (val : List UInt8 → Nat × Nat) (W : World) : Prop :=
  ∀ (s : List UInt8) (w : World), Below W.heap.size W w → Calls Tryz.prog 26 #[fv, .string ⟨s.toArray⟩] w fun e w' => e = .returned (.tuple #[.int .u16 ((val s).1 : Nat), .int .i64 ((val s).2 : Nat)]) ∧ Below w.heap.size w w'
theorem AskAt.below {fv : Value} {val : List UInt8 → Nat × Nat} {W W' : World} (h : AskAt fv val W) (hb : Below W.heap.size W W') : AskAt fv val W' := fun s w hw => h s w (hb.trans (hw.mono hb.size))
theorem askAt_nil (w : World) : AskAt .nilFunc (fun _ => (0, 3)) w := fun _ w' _ => ask_nil _ w'
theorem askAt_sym (p : Addr) (vs : Value) (l : List (List UInt8 × Nat)) (w : World) (hp : w.cell? p = some vs) (h : SymR w vs l) (hl : l.length ≤ 1000000) : AskAt (.func (.func 11) #[] #[.pointer (some p)]) (findL l) w :=
  fun s w' hw => ask_sym p vs l s w' (keep_bel hw _ _ hp) (h.below hw) hl
end Go.Proofs.YtaoeipbofhkkcaaGreatDoor
namespace Go.Proofs.YtaoeipbofhkkcaaGreatDoor
open Go.RowKit Go.Proofs.NumMath

def evC (ph pv pe : Addr) : Value := .func (.func 25) #[] #[.pointer (some ph), .pointer (some pv), .pointer (some pe)]
/-- what the closure captures lies there -/
structure Caught (here : Nat) (fv : Value) (ph pv pe : Addr) (W : World) : Prop where
  h : W.cell? ph = some (.int .u16 here)
  v : W.cell? pv = some fv
  e : W.cell? pe = some (evC ph pv pe)
theorem Caught.below {here : Nat} {fv : Value} {ph pv pe : Addr} {W W' : World} (h : Caught here fv ph pv pe W) (hb : Below W.heap.size W W') : Caught here fv ph pv pe W' := ⟨keep_bel hb _ _ h.h, keep_bel hb _ _ h.v, keep_bel hb _ _ h.e⟩
def PEval (here : Nat) (val : List UInt8 → Nat × Nat) (fv : Value) (ph pv pe : Addr) (r : RE) : Prop :=
  ∀ (v : Value) (w : World), ExV w v (toEx r) → AskAt fv val w → Caught here fv ph pv pe w → Calls Tryz.prog 25 #[v, .pointer (some ph), .pointer (some pv), .pointer (some pe)] w fun e w' =>
    e = .returned (.tuple #[.int .u16 ((evalR here val r).1 : Nat), .int .i64 ((evalR here val r).2 : Nat)]) ∧ Below w.heap.size w w'
theorem peval_num (here n : Nat) (val : List UInt8 → Nat × Nat) (fv : Value) (ph pv pe : Addr) : PEval here val fv ph pv pe (.num n) := by
  rintro v w ⟨hn, b, o, sp, c, rfl, hsp, hl⟩ hA hp
  clear hA hl hsp hp
  go_enter Tryz.func25, Tryz.ntmps25
  go_wp2
  go_ret2
  exact ⟨rfl, box_below _ _⟩
theorem peval_here (here : Nat) (val : List UInt8 → Nat × Nat) (fv : Value) (ph pv pe : Addr) : PEval here val fv ph pv pe .here := by
  rintro v w ⟨hn, b, o, sp, c, rfl, hsp, hl⟩ hA hp
  have hc := (hp.below (box_below w (Obj.cells #[Value.string ⟨#[36]⟩, Value.int .u16 0, Value.string ⟨#[]⟩, Value.slice sp 0 c] 25))).h
  clear hA hl hsp hp
  go_enter Tryz.func25, Tryz.ntmps25
  go_wp2
  go_ret2
  exact ⟨rfl, box_below _ _⟩
theorem peval_nam (here : Nat) (s : List UInt8) (val : List UInt8 → Nat × Nat) (fv : Value) (ph pv pe : Addr) : PEval here val fv ph pv pe (.nam s) := by
  rintro v w ⟨hn, b, o, sp, c, rfl, hsp, hl⟩ hA hp
  have hB := box_below w (Obj.cells #[Value.string ⟨#[110]⟩, Value.int .u16 0, Value.string ⟨s.toArray⟩, Value.slice sp 0 c] 25)
  have hv := (hp.below hB).v
  have hc := hA s _ hB
  clear hA hl hsp hp hB
  go_enter Tryz.func25, Tryz.ntmps25
  go_wp2_with (go_at_call 26; refine hc.mono ?_; rintro e w' ⟨rfl, hB⟩)
  go_ret2
  exact ⟨rfl, (box_below _ _).trans (hB.mono (box_below _ _).size)⟩
theorem below_heap {W W' : World} (h : Below W.heap.size W W') {k : Nat} {o : Obj} (hk : W.heap[k]? = some o) : W'.heap[k]? = some o := by
  rw [h.block k (Array.getElem?_eq_some_iff.1 hk).1, hk]
theorem set_heap {W : World} {k : Nat} {cs : Array Value} {t : TypeId} {fr : Nat × Nat} (h : W.heap[k]? = some (.cells cs t fr)) (j : Nat) (v : Value) : (W.setCell ⟨k, j, none⟩ v).heap[k]? = some (.cells (cs.setIfInBounds j v) t fr) := by
  simp [World.setCell, Array.getElem?_modify, h]
theorem set_other {W : World} {k i : Nat} (j : Nat) (v : Value) (h : i ≠ k) : (W.setCell ⟨k, j, none⟩ v).heap[i]? = W.heap[i]? := Below.heap_setCell _ _ _ _ h
theorem new_two (w : World) (o1 o2 : Obj) : ((w.alloc o1).alloc o2).heap[w.heap.size]? = some o1 ∧ ((w.alloc o1).alloc o2).heap[w.heap.size + 1]? = some o2 := by
  refine ⟨below_heap (box_below (w.alloc o1) o2) (heap_alloc_new w o1), ?_⟩
  have := heap_alloc_new (w.alloc o1) o2
  rwa [show (w.alloc o1).heap.size = w.heap.size + 1 by simp] at this
set_option maxHeartbeats 4000000 in
theorem peval_un (here : Nat) (val : List UInt8 → Nat × Nat) (fv : Value) (ph pv pe : Addr) (o : O1) (a : RE) (ok : (evalR here val a).1 ≤ 65535) (iha : PEval here val fv ph pv pe a) : PEval here val fv ph pv pe (.un o a) := by
  rintro v w ⟨hn, b, of, sp, c, rfl, hsp, hl⟩ hA hp
  obtain rfl := hsp (by simp)
  obtain ⟨X, hX⟩ : ∃ X, toEx a = X := ⟨_, rfl⟩
  have hi := iha
  unfold PEval at hi
  rw [hX] at hl hi
  obtain ⟨xo, xn, xs, xl⟩ := X
  simp only [ListAt, CellsAt, and_true] at hl
  obtain ⟨x0, x1, x2, x3, b', o', sp', c', x4, x5, x6⟩ := hl
  obtain ⟨m, hm⟩ : ∃ m, xl.length = m := ⟨_, rfl⟩
  have hi2 : ∀ W, Below w.heap.size w W → Calls Tryz.prog 25 #[.agg #[.string ⟨xo.toArray⟩, .int .u16 (xn : Nat), .string ⟨xs.toArray⟩, .slice sp' xl.length c'], .pointer (some ph), .pointer (some pv), .pointer (some pe)] W fun e w' =>
    e = .returned (.tuple #[.int .u16 ((evalR here val a).1 : Nat), .int .i64 ((evalR here val a).2 : Nat)]) ∧ Below W.heap.size W w' := fun W hW =>
    hi _ W (ExV.below hW ⟨x2, b', o', sp', c', rfl, x5, x6⟩) (hA.below hW) (hp.below hW)
  rw [hm] at x4 hi2
  obtain ⟨q, hq⟩ : ∃ q, evalR here val a = q := ⟨_, rfl⟩
  have hres : evalR here val (.un o a) = if q.2 = 0 then (one16 o q.1, 0) else (0, q.2) := by rw [← hq]; rfl
  rw [hq] at hi2 ok
  have HI := Lib.hid hi2
  have HP := Lib.hid hp
  clear hi hi2 iha hX hm x5 x6 hA hq
  have hx := fun a b => apply_one o a b
  obtain ⟨tx, ty⟩ := txt1_other o
  have tz := txt1_here o
  obtain ⟨T, hT⟩ : ∃ T, txt1 o = T := ⟨_, rfl⟩
  rw [hT] at hx tx ty tz
  have t35 : (T == [35]) = false := by rw [beq_eq_false_iff_ne]; exact tx
  have t36 : (T == [36]) = false := by rw [beq_eq_false_iff_ne]; exact tz
  have t110 : (T == [110]) = false := by rw [beq_eq_false_iff_ne]; exact ty
  clear tx ty tz
  show Calls Tryz.prog 25 #[.agg #[.string ⟨(txt1 o).toArray⟩, .int .u16 0, .string ⟨#[]⟩, .slice (some ⟨b, of, none⟩) 1 c], .pointer (some ph), .pointer (some pv), .pointer (some pe)] w _
  rw [hT]
  clear hT
  go_enter Tryz.func25, Tryz.ntmps25
  go_wp2
  obtain ⟨g0, g1⟩ := new_two w (Obj.cells #[Value.string ⟨T.toArray⟩, Value.int .u16 0, Value.string ⟨#[]⟩, Value.slice (some ⟨b, of, none⟩) 1 c] 25) (Obj.cells #[Value.int .u16 0, Value.int .u16 0] 54)
  have G0 := Lib.hid g0
  have G1 := Lib.hid g1
  clear g0 g1
  go_loopw [32] (fun i wr => ∃ eb : Array Value, eb[0]? = some (Value.string ⟨T.toArray⟩) ∧ Hid (wr.heap[w.heap.size]? = some (.cells eb 25 (0, 0))) ∧ Hid (Below w.heap.size w wr) ∧
    ((i = .int .i64 0 ∧ Hid (wr.heap[w.heap.size + 1]? = some (.cells #[.int .u16 0, .int .u16 0] 54 (0, 0)))) ∨ (i = .int .i64 1 ∧ q.2 = 0 ∧ Hid (wr.heap[w.heap.size + 1]? = some (.cells #[.int .u16 (q.1 : Nat), .int .u16 0] 54 (0, 0)))))) (fun i _ => 1 - (intOf i).toNat)
  case atStart => exact ⟨_, rfl, G0, Lib.hid (below_2o _ _ _), .inl ⟨rfl, G1⟩⟩
  case round =>
    obtain ⟨eb, he0, GE, HB, ⟨rfl, GN⟩ | ⟨rfl, hq0, GN⟩⟩ := hrel
    · have y0 := keep_bel HB.out _ _ x0
      have y1 := keep_bel HB.out _ _ x1
      have y3 := keep_bel HB.out _ _ x3
      have y4 := keep_bel HB.out _ _ x4
      have hpe := ((HP.out.below HB.out).below (box_below wr (Obj.cells #[Value.string ⟨xo.toArray⟩, Value.int .u16 xn, Value.string ⟨xs.toArray⟩, Value.slice sp' m c'] 25))).e
      unfold evC at hpe
      by_cases hq0 : q.2 = 0
      · have hqt : ((q.2 : Int) != 0) = false := by rw [bne_eq_false_iff_eq]; omega
        have HQ := Lib.hid hq0
        clear hq0
        go_wp2_with (go_at_call 25; refine (HI.out _ (HB.out.trans ((box_below _ _).mono HB.out.size))).mono ?_; rintro r w3 ⟨rfl, hB3⟩; have GN3 := Lib.hid (below_heap hB3 (below_heap (box_below wr _) GN.out)); have n0 := (cells_two GN3.out).1; have f0 := Lib.frozen_of_heap GN3.out 0)
        refine ⟨⟨eb, he0, Lib.hid ?_, Lib.hid ?_, .inr ⟨rfl, HQ.out, Lib.hid (set_heap GN3.out 0 _)⟩⟩, by simp [intOf]⟩
        · rw [set_other 0 _ (by omega)]
          exact below_heap hB3 (below_heap (box_below wr _) GE.out)
        · exact ((HB.out.trans (((box_below wr _).trans (hB3.mono (box_below wr _).size)).mono HB.out.size))).setCell (p := ⟨w.heap.size + 1, 0, none⟩) (by simp) _
      · have hqt : ((q.2 : Int) != 0) = true := by rw [bne_iff_ne]; omega
        rw [if_neg hq0] at hres
        have HR := Lib.hid hres
        clear hq0 hres
        go_wp2_with (go_at_call 25; refine (HI.out _ (HB.out.trans ((box_below _ _).mono HB.out.size))).mono ?_; rintro r w3 ⟨rfl, hB3⟩)
        go_ret2
        rw [HR.out]
        exact ⟨rfl, (HB.out.trans (((box_below wr _).trans (hB3.mono (box_below wr _).size)).mono HB.out.size))⟩
    · have n0 := (cells_two GN.out).1
      have n1 := (cells_two GN.out).2
      have e0 : wr.cell? ⟨w.heap.size, 0, none⟩ = some (Value.string ⟨T.toArray⟩) := by rw [Lib.cell_of_heap GE.out, he0]
      rw [if_pos hq0] at hres
      have HR := Lib.hid hres
      clear hres he0
      go_wp2_with (go_at_call 27; refine (hx q.1 0 ok _).mono ?_; rintro r w3 ⟨rfl, hB3⟩)
      go_ret2
      rw [HR.out]
      exact ⟨rfl, HB.out.trans (hB3.mono HB.out.size)⟩
set_option maxHeartbeats 4000000 in
theorem peval_bin (here : Nat) (val : List UInt8 → Nat × Nat) (fv : Value) (ph pv pe : Addr) (o : O2) (a a2 : RE) (ok : (evalR here val a).1 ≤ 65535) (ok2 : (evalR here val a2).1 ≤ 65535) (iha : PEval here val fv ph pv pe a) (ihb : PEval here val fv ph pv pe a2) : PEval here val fv ph pv pe (.bin o a a2) := by
  rintro v w ⟨hn, b, of, sp, c, rfl, hsp, hl⟩ hA hp
  obtain rfl := hsp (by simp)
  obtain ⟨X, hX⟩ : ∃ X, toEx a = X := ⟨_, rfl⟩
  obtain ⟨Y, hY⟩ : ∃ Y, toEx a2 = Y := ⟨_, rfl⟩
  have hi := iha
  have hj := ihb
  unfold PEval at hi hj
  rw [hX, hY] at hl
  rw [hX] at hi
  rw [hY] at hj
  obtain ⟨xo, xn, xs, xl⟩ := X
  obtain ⟨yo, yn, ys, yl⟩ := Y
  simp only [ListAt, CellsAt, and_true] at hl
  obtain ⟨⟨x0, x1, x2, x3, b', o', sp', c', x4, x5, x6⟩, y0, y1, y2, y3, b'', o'', sp'', c'', y4, y5, y6⟩ := hl
  obtain ⟨m, hm⟩ : ∃ m, xl.length = m := ⟨_, rfl⟩
  obtain ⟨m2, hm2⟩ : ∃ m, yl.length = m := ⟨_, rfl⟩
  have hi2 : ∀ W, Below w.heap.size w W → Calls Tryz.prog 25 #[.agg #[.string ⟨xo.toArray⟩, .int .u16 (xn : Nat), .string ⟨xs.toArray⟩, .slice sp' xl.length c'], .pointer (some ph), .pointer (some pv), .pointer (some pe)] W fun e w' =>
    e = .returned (.tuple #[.int .u16 ((evalR here val a).1 : Nat), .int .i64 ((evalR here val a).2 : Nat)]) ∧ Below W.heap.size W w' := fun W hW =>
    hi _ W (ExV.below hW ⟨x2, b', o', sp', c', rfl, x5, x6⟩) (hA.below hW) (hp.below hW)
  have hj2 : ∀ W, Below w.heap.size w W → Calls Tryz.prog 25 #[.agg #[.string ⟨yo.toArray⟩, .int .u16 (yn : Nat), .string ⟨ys.toArray⟩, .slice sp'' yl.length c''], .pointer (some ph), .pointer (some pv), .pointer (some pe)] W fun e w' =>
    e = .returned (.tuple #[.int .u16 ((evalR here val a2).1 : Nat), .int .i64 ((evalR here val a2).2 : Nat)]) ∧ Below W.heap.size W w' := fun W hW =>
    hj _ W (ExV.below hW ⟨y2, b'', o'', sp'', c'', rfl, y5, y6⟩) (hA.below hW) (hp.below hW)
  rw [hm] at x4 hi2
  rw [hm2] at y4 hj2
  obtain ⟨q, hq⟩ : ∃ q, evalR here val a = q := ⟨_, rfl⟩
  obtain ⟨q', hq'⟩ : ∃ q, evalR here val a2 = q := ⟨_, rfl⟩
  have hres : evalR here val (.bin o a a2) = if q.2 = 0 then (if q'.2 = 0 then two16 o q.1 q'.1 else (0, q'.2)) else (0, q.2) := by rw [← hq, ← hq']; rfl
  rw [hq] at hi2 ok
  rw [hq'] at hj2 ok2
  have HI := Lib.hid hi2
  have HJ := Lib.hid hj2
  have HP := Lib.hid hp
  clear hi hi2 iha hj hj2 ihb hX hY hm hm2 x5 x6 y5 y6 hA hq hq'
  have hx := fun a b => apply_two o a b
  obtain ⟨tx, ty⟩ := txt2_other o
  have tz := txt2_here o
  obtain ⟨T, hT⟩ : ∃ T, txt2 o = T := ⟨_, rfl⟩
  rw [hT] at hx tx ty tz
  have t35 : (T == [35]) = false := by rw [beq_eq_false_iff_ne]; exact tx
  have t36 : (T == [36]) = false := by rw [beq_eq_false_iff_ne]; exact tz
  have t110 : (T == [110]) = false := by rw [beq_eq_false_iff_ne]; exact ty
  clear tx ty tz
  show Calls Tryz.prog 25 #[.agg #[.string ⟨(txt2 o).toArray⟩, .int .u16 0, .string ⟨#[]⟩, .slice (some ⟨b, of, none⟩) 2 c], .pointer (some ph), .pointer (some pv), .pointer (some pe)] w _
  rw [hT]
  clear hT
  go_enter Tryz.func25, Tryz.ntmps25
  go_wp2
  obtain ⟨g0, g1⟩ := new_two w (Obj.cells #[Value.string ⟨T.toArray⟩, Value.int .u16 0, Value.string ⟨#[]⟩, Value.slice (some ⟨b, of, none⟩) 2 c] 25) (Obj.cells #[Value.int .u16 0, Value.int .u16 0] 54)
  have G0 := Lib.hid g0
  have G1 := Lib.hid g1
  clear g0 g1
  go_loopw [32] (fun i wr => ∃ eb : Array Value, eb[0]? = some (Value.string ⟨T.toArray⟩) ∧ Hid (wr.heap[w.heap.size]? = some (.cells eb 25 (0, 0))) ∧ Hid (Below w.heap.size w wr) ∧
    ((i = .int .i64 0 ∧ Hid (wr.heap[w.heap.size + 1]? = some (.cells #[.int .u16 0, .int .u16 0] 54 (0, 0)))) ∨ (i = .int .i64 1 ∧ q.2 = 0 ∧ Hid (wr.heap[w.heap.size + 1]? = some (.cells #[.int .u16 (q.1 : Nat), .int .u16 0] 54 (0, 0)))) ∨
      (i = .int .i64 2 ∧ q.2 = 0 ∧ q'.2 = 0 ∧ Hid (wr.heap[w.heap.size + 1]? = some (.cells #[.int .u16 (q.1 : Nat), .int .u16 (q'.1 : Nat)] 54 (0, 0)))))) (fun i _ => 2 - (intOf i).toNat)
  case atStart => exact ⟨_, rfl, G0, Lib.hid (below_2o _ _ _), .inl ⟨rfl, G1⟩⟩
  case round =>
    obtain ⟨eb, he0, GE, HB, ⟨rfl, GN⟩ | ⟨rfl, hq0, GN⟩ | ⟨rfl, hq0, hq1, GN⟩⟩ := hrel
    · have z0 := keep_bel HB.out _ _ x0
      have z1 := keep_bel HB.out _ _ x1
      have z3 := keep_bel HB.out _ _ x3
      have z4 := keep_bel HB.out _ _ x4
      have hpe := ((HP.out.below HB.out).below (box_below wr (Obj.cells #[Value.string ⟨xo.toArray⟩, Value.int .u16 xn, Value.string ⟨xs.toArray⟩, Value.slice sp' m c'] 25))).e
      unfold evC at hpe
      by_cases hq0 : q.2 = 0
      · have hqt : ((q.2 : Int) != 0) = false := by rw [bne_eq_false_iff_eq]; omega
        have HQ := Lib.hid hq0
        clear hq0
        go_wp2_with (go_at_call 25; refine (HI.out _ (HB.out.trans ((box_below _ _).mono HB.out.size))).mono ?_; rintro r w3 ⟨rfl, hB3⟩; have GN3 := Lib.hid (below_heap hB3 (below_heap (box_below wr _) GN.out)); have n0 := (cells_two GN3.out).1; have f0 := Lib.frozen_of_heap GN3.out 0)
        refine ⟨⟨eb, he0, Lib.hid ?_, Lib.hid ?_, .inr (.inl ⟨rfl, HQ.out, Lib.hid (set_heap GN3.out 0 _)⟩)⟩, by simp [intOf]⟩
        · rw [set_other 0 _ (by omega)]
          exact below_heap hB3 (below_heap (box_below wr _) GE.out)
        · exact ((HB.out.trans (((box_below wr _).trans (hB3.mono (box_below wr _).size)).mono HB.out.size))).setCell (p := ⟨w.heap.size + 1, 0, none⟩) (by simp) _
      · have hqt : ((q.2 : Int) != 0) = true := by rw [bne_iff_ne]; omega
        rw [if_neg hq0] at hres
        have HR := Lib.hid hres
        clear hq0 hres
        go_wp2_with (go_at_call 25; refine (HI.out _ (HB.out.trans ((box_below _ _).mono HB.out.size))).mono ?_; rintro r w3 ⟨rfl, hB3⟩)
        go_ret2
        rw [HR.out]
        exact ⟨rfl, (HB.out.trans (((box_below wr _).trans (hB3.mono (box_below wr _).size)).mono HB.out.size))⟩
    · have z0 := keep_bel HB.out _ _ y0
      have z1 := keep_bel HB.out _ _ y1
      have z3 := keep_bel HB.out _ _ y3
      have z4 := keep_bel HB.out _ _ y4
      have hpe := ((HP.out.below HB.out).below (box_below wr (Obj.cells #[Value.string ⟨yo.toArray⟩, Value.int .u16 yn, Value.string ⟨ys.toArray⟩, Value.slice sp'' m2 c''] 25))).e
      unfold evC at hpe
      by_cases hq1 : q'.2 = 0
      · have hqt : ((q'.2 : Int) != 0) = false := by rw [bne_eq_false_iff_eq]; omega
        have HQ := Lib.hid hq0
        have HQ1 := Lib.hid hq1
        clear hq0 hq1
        go_wp2_with (go_at_call 25; refine (HJ.out _ (HB.out.trans ((box_below _ _).mono HB.out.size))).mono ?_; rintro r w3 ⟨rfl, hB3⟩; have GN3 := Lib.hid (below_heap hB3 (below_heap (box_below wr _) GN.out)); have n0 := (cells_two GN3.out).2; have f0 := Lib.frozen_of_heap GN3.out 1)
        refine ⟨⟨eb, he0, Lib.hid ?_, Lib.hid ?_, .inr (.inr ⟨rfl, HQ.out, HQ1.out, Lib.hid (set_heap GN3.out 1 _)⟩)⟩, by simp [intOf]⟩
        · rw [set_other 1 _ (by omega)]
          exact below_heap hB3 (below_heap (box_below wr _) GE.out)
        · exact ((HB.out.trans (((box_below wr _).trans (hB3.mono (box_below wr _).size)).mono HB.out.size))).setCell (p := ⟨w.heap.size + 1, 1, none⟩) (by simp) _
      · have hqt : ((q'.2 : Int) != 0) = true := by rw [bne_iff_ne]; omega
        rw [if_pos hq0, if_neg hq1] at hres
        have HR := Lib.hid hres
        clear hq0 hq1 hres
        go_wp2_with (go_at_call 25; refine (HJ.out _ (HB.out.trans ((box_below _ _).mono HB.out.size))).mono ?_; rintro r w3 ⟨rfl, hB3⟩)
        go_ret2
        rw [HR.out]
        exact ⟨rfl, (HB.out.trans (((box_below wr _).trans (hB3.mono (box_below wr _).size)).mono HB.out.size))⟩
    · have n0 := (cells_two GN.out).1
      have n1 := (cells_two GN.out).2
      have e0 : wr.cell? ⟨w.heap.size, 0, none⟩ = some (Value.string ⟨T.toArray⟩) := by rw [Lib.cell_of_heap GE.out, he0]
      rw [if_pos hq0, if_pos hq1] at hres
      have HR := Lib.hid hres
      clear hres he0
      go_wp2_with (go_at_call 27; refine (hx q.1 q'.1 ok ok2 _).mono ?_; rintro r w3 ⟨rfl, hB3⟩)
      go_ret2
      rw [HR.out]
      exact ⟨rfl, HB.out.trans (hB3.mono HB.out.size)⟩
theorem pevals (here : Nat) (hh : here ≤ 65535) (val : List UInt8 → Nat × Nat) (hv : ∀ s, (val s).1 ≤ 65535) (fv : Value) (ph pv pe : Addr) : ∀ r : RE, okR r = true → PEval here val fv ph pv pe r
  | .num n, _ => peval_num here n val fv ph pv pe
  | .nam s, _ => peval_nam here s val fv ph pv pe
  | .here, _ => peval_here here val fv ph pv pe
  | .un o a, h => by
    have ha : okR a = true := by simpa [okR] using h
    exact peval_un here val fv ph pv pe o a (evalR_bd here val hh hv a ha) (pevals here hh val hv fv ph pv pe a ha)
  | .bin o a b, h => by
    have hab : okR a = true ∧ okR b = true := by simpa [okR] using h
    exact peval_bin here val fv ph pv pe o a b (evalR_bd here val hh hv a hab.1) (evalR_bd here val hh hv b hab.2) (pevals here hh val hv fv ph pv pe a hab.1) (pevals here hh val hv fv ph pv pe b hab.2)
end Go.Proofs.YtaoeipbofhkkcaaGreatDoor
namespace Go.Proofs.YtaoeipbofhkkcaaGreatDoor
open Go.RowKit Go.Proofs.NumMath

theorem below_three (w : World) (o1 o2 o3 : Obj) : Below w.heap.size w (((w.alloc o1).alloc o2).alloc o3) := (below_2o w o1 o2).alloc (below_2o w o1 o2).size o3
theorem new_three (w : World) (o1 o2 o3 : Obj) : (((w.alloc o1).alloc o2).alloc o3).heap[w.heap.size]? = some o1 ∧ (((w.alloc o1).alloc o2).alloc o3).heap[w.heap.size + 1]? = some o2 ∧ (((w.alloc o1).alloc o2).alloc o3).heap[w.heap.size + 1 + 1]? = some o3 := by
  obtain ⟨h1, h2⟩ := new_two w o1 o2
  refine ⟨below_heap (box_below _ o3) h1, below_heap (box_below _ o3) h2, ?_⟩
  have := heap_alloc_new ((w.alloc o1).alloc o2) o3
  rwa [show ((w.alloc o1).alloc o2).heap.size = w.heap.size + 1 + 1 by simp] at this
theorem cells_one {W : World} {k : Nat} {u0 : Value} {t : TypeId} {fr : Nat × Nat} (h : W.heap[k]? = some (.cells #[u0] t fr)) : W.cell? ⟨k, 0, none⟩ = some u0 := by simp [World.cell?, h]
set_option maxHeartbeats 4000000 in
theorem pEval_any (here : Nat) (hh : here ≤ 65535) (val : List UInt8 → Nat × Nat) (hval : ∀ s, (val s).1 ≤ 65535) (fv : Value) (v : Value) (e : Ex) (x : Nat × Nat) (w : World) (hs : shortX e = true) (hv : ExV w v e)
    (hf : fv = .nilFunc ∨ ∃ f a b, fv = .func f a b) (hA : AskAt fv val w) (hx : EvX here val e x) : Calls Tryz.prog 10 #[v, .int .u16 here, fv] w fun r w' =>
    r = .returned (.tuple #[.int .u16 (x.1 : Nat), .int .i64 (x.2 : Nat)]) ∧ Below w.heap.size w w' := by
  have hR : ∀ W, Below w.heap.size w W → Calls Tryz.prog 24 #[v] W fun r w' => r = .returned (.int .i64 (rightK e : Nat)) ∧ Below W.heap.size W w' := fun W hW => pRight_any v e W hs (hv.below hW)
  have HV := Lib.hid hv
  obtain ⟨op, n, name, sub⟩ := e
  obtain ⟨hn, b, o, sp, c, rfl, hsp, hll⟩ := hv
  obtain ⟨m, hm⟩ : ∃ m, sub.length = m := ⟨_, rfl⟩
  rw [hm] at hR ⊢
  have HM := Lib.hid hm
  have HA := Lib.hid hA
  have HF := Lib.hid hval
  clear hsp hll hm hA hval
  obtain ⟨g0, g1, g2⟩ := new_three w (Obj.cells #[Value.string ⟨op.toArray⟩, Value.int .u16 n, Value.string ⟨name.toArray⟩, Value.slice sp m c] 25) (Obj.cells #[Value.int .u16 here] 22) (Obj.cells #[fv] 33)
  have hB0 := below_three w (Obj.cells #[Value.string ⟨op.toArray⟩, Value.int .u16 n, Value.string ⟨name.toArray⟩, Value.slice sp m c] 25) (Obj.cells #[Value.int .u16 here] 22) (Obj.cells #[fv] 33)
  have G0 := Lib.hid g0
  have G1 := Lib.hid g1
  have G2 := Lib.hid g2
  have HB0 := Lib.hid hB0
  clear g0 g1 g2 hB0
  rcases hx with ⟨h1, rfl⟩ | ⟨r, h1, h2, h3, hx⟩
  · have hk : rightK (.mk op n name sub) = 2 := by unfold rightK; rw [h1]; rfl
    rw [hk] at hR
    have HR := Lib.hid hR
    clear hk hR h1 hs
    rcases hf with rfl | ⟨f, a, b, rfl⟩
    all_goals
      go_enter Tryz.func10, Tryz.ntmps10
      go_wp2_with (go_at_call 24; refine (HR.out _ HB0.out).mono ?_; rintro e w2 ⟨rfl, hB⟩)
      go_ret2
      exact ⟨rfl, HB0.out.trans (hB.mono HB0.out.size)⟩
  · have hk : rightK (.mk op n name sub) = 0 := by unfold rightK; rw [h3]; rfl
    rw [hk] at hR
    have HR := Lib.hid hR
    have HE := Lib.hid (fun ph pv pe => pevals here hh val HF.out fv ph pv pe r h2)
    have HX := Lib.hid hx
    have HT := Lib.hid h1
    clear hk hR h1 h2 h3 hs hx
    rcases hf with rfl | ⟨f, a, b, rfl⟩
    all_goals
      have hmf : ∀ (fn : Fn) (first cap : Array Value) (w : World), (Instr.makeFunc fn first cap).run Tryz.prog w = .ok (.func fn first cap) w := fun _ _ _ _ => rfl
      have hsf : ∀ (W : World) (a : Addr) (f : Fn) (x y : Array Value), (store a (.func f x y)).run Tryz.prog W = stored Tryz.prog W a (.func f x y) .plain := fun W a f x y => run_store Tryz.prog W a _ .plain rfl
      go_enter Tryz.func10, Tryz.ntmps10
      go_wp2_with (first
        | (go_at_call 24; refine (HR.out _ HB0.out).mono ?_; rintro e w2 ⟨rfl, hB⟩
           have hB4 := box_below w2 (Obj.cells #[Value.func (Fn.func 25) #[] #[Value.pointer (some ⟨w.heap.size + 1, 0, none⟩), Value.pointer (some ⟨w.heap.size + 1 + 1, 0, none⟩), Value.pointer (some ⟨w2.heap.size, 0, none⟩)]] 52)
           have d0 := (cells_box (below_heap hB4 (below_heap hB G0.out))).1
           have d1 := (cells_box (below_heap hB4 (below_heap hB G0.out))).2.1
           have d2 := (cells_box (below_heap hB4 (below_heap hB G0.out))).2.2.1
           have d3 := (cells_box (below_heap hB4 (below_heap hB G0.out))).2.2.2
           have HC := Lib.hid (⟨cells_one (below_heap hB4 (below_heap hB G1.out)), cells_one (below_heap hB4 (below_heap hB G2.out)), cells_one (heap_alloc_new w2 _)⟩ : Caught here _ ⟨w.heap.size + 1, 0, none⟩ ⟨w.heap.size + 1 + 1, 0, none⟩ ⟨w2.heap.size, 0, none⟩ (w2.alloc (Obj.cells #[Value.func (Fn.func 25) #[] #[Value.pointer (some ⟨w.heap.size + 1, 0, none⟩), Value.pointer (some ⟨w.heap.size + 1 + 1, 0, none⟩), Value.pointer (some ⟨w2.heap.size, 0, none⟩)]] 52)))
           have HB5 := Lib.hid (HB0.out.trans ((hB.trans (hB4.mono hB.size)).mono HB0.out.size))
           clear hB hB4)
        | (go_at_call 25; refine (HE.out _ _ _ _ _ (by rw [HT.out]; have := HV.out.below HB5.out; rw [HM.out] at this; exact this) (HA.out.below HB5.out) HC.out).mono ?_; rintro e w6 ⟨rfl, hB6⟩))
      go_ret2
      rw [HX.out]
      exact ⟨rfl, HB5.out.trans (hB6.mono HB5.out.size)⟩
end Go.Proofs.YtaoeipbofhkkcaaGreatDoor
