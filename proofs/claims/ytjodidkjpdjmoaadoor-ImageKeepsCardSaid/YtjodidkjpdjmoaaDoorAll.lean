/- The bytes of an image, gone through by addresses: what all does when it is called; and a law for a loop over a method value. -/
import Derived.Test.YtjodidkjpdjmoaaDoorPut
import Derived.RangeFuncNested
import Derived.RangeFuncBound
import Derived.RangeFuncCalls
import Derived.RangeFuncLeaves
import Derived.RangeFuncBox
import Derived.Shelf.Abstract
import Derived.Shelf.RegionOpen
import Derived.OwnWalkIn
import Derived.TacticsInMore
import Derived.LoopNIn
import Derived.LoopIn
import Derived.Maps.AppendAt
import Derived.Shelf.Spec.TrailingZeros
namespace Go.Proofs.YtjodidkjpdjmoaaDoor
open Go.RowKit Go.Shelf
attribute [local go_sem] Oper.semAt_some

/-- The library's table of bits lies in its variable. -/
def Tab (w : World) : Prop := ∀ j, j < 64 → w.cell? ⟨0, j, none⟩ = some (.int .u8 (Lib.deBruijn64tab.getD j 0 : Nat))

theorem tz_core (x k idx : Nat) (w : World) (hne : ((x : Int) == 0) = false)
    (key : IntKind.u64.wrap (bits BinOp.and IntKind.u64 (x : Int) (IntKind.u64.wrap (-(x : Int))) * 285870213051353865) / 288230376151711744 = (idx : Int))
    (hi : idx < 64) (hk : k < 64) (hcell : w.cell? ⟨0, idx, none⟩ = some (.int .u8 k)) : Calls Tryd.prog 31 #[.int .u64 x] w fun e w' => e = .returned (.int .i64 k) ∧ w' = w := by
  go_enter Tryd.func31, Tryd.ntmps31
  go_wp2_with (simp only [key])
  go_ret
  exact ⟨rfl, rfl⟩
theorem tz_any (x : Nat) (hx : x < 18446744073709551616) (hx0 : x ≠ 0) (w : World) (hT : Tab w) : Calls Tryd.prog 31 #[.int .u64 x] w fun e w' => e = .returned (.int .i64 (Lib.ctz 64 x : Nat)) ∧ w' = w := by
  obtain ⟨hlow, hk⟩ := Lib.lowest_bit 64 x hx0 (by omega)
  obtain ⟨hi, htab⟩ := Lib.deBruijn64_at _ hk
  have hcell := hT _ hi
  rw [htab] at hcell
  exact tz_core x _ _ w (by simp; omega) (tz64_key x _ hx hx0 hlow) hi hk hcell


/-- A load whose run is known. -/
theorem wpListIn_load {F : Fence} {n : Nat} {P : Program} {w : World} {ops : Array Oper} {rest : List Oper} {o : Oper} {a : Act} {Q : Exit → Act → World → Prop} (hg : o.guard = none) (ty : TypeId) (x : Operand) (ho : o.op = .load ty x) (v : Value)
    (hx : (Instr.loadAt ty (a.eval x)).run P w = .ok v w) (h : wpListIn F n P ops Q rest (a.put o.dst v) w) : wpListIn F n P ops Q (o :: rest) a w := by
  refine wpListIn_plain hg fun K hK => ?_
  unfold Oper.wpIn
  refine ⟨by simp [Oper.about, ho], ?_⟩
  rw [Oper.semAt_plain F _ _ (by rw [ho]; intro c hc; cases hc)]
  simp only [execOp, ho, Sem.run_bind, hx, Result.andThen_ok, Sem.run_pure]
  exact hK _ _ h
theorem wpList_load {P : Program} {w : World} {ops : Array Oper} {rest : List Oper} {o : Oper} {a : Act} {Q : Exit → Act → World → Prop} (hg : o.guard = none) (ty : TypeId) (x : Operand) (ho : o.op = .load ty x) (v : Value)
    (hx : (Instr.loadAt ty (a.eval x)).run P w = .ok v w) (h : wpList P ops Q rest (a.put o.dst v) w) : wpList P ops Q (o :: rest) a w := by
  refine wpList_plain hg fun K hK => ?_
  unfold Oper.wp execOp
  simp only [ho, Sem.run_bind, hx, Result.andThen_ok, Sem.run_pure]
  exact hK _ _ h
theorem size60 : (Tryd.prog.info? 60).map (·.size) = some 1024 := by kernel_rfl
theorem load60 {W : World} {b : Nat} {m : Nat → Bool} {M : Nat → Nat} (h : Mk W b m M) : ∃ arr : Array Value, arr.size = 1024 ∧ (∀ k, k < 1024 → arr[k]? = some (.int .u64 (M k))) ∧
    (Instr.loadAt 60 (.pointer (some ⟨b, 0, none⟩))).run Tryd.prog W = .ok (.agg arr) W := by
  refine ⟨((List.range 1024).map fun k => Value.int .u64 (M k)).toArray, by simp, fun k hk => by simp [hk], ?_⟩
  refine run_loadAt_mid (P := Tryd.prog) W b 0 60 ((List.range 1024).map fun k => Value.int .u64 (M k)) _ ?_ Tryd.underlying60 rfl (by rw [List.length_map, List.length_range]; exact size60)
  intro j v hv
  have hj : j < 1024 := by have := (List.getElem?_eq_some_iff.1 hv).1; simpa using this
  rw [Nat.zero_add, h.marks j hj, ← hv]
  simp [hj]

theorem index60 (arr : Array Value) (k : Nat) (hk : k < 1024) (v : Value) (hv : arr[k]? = some v) (w : World) : (Instr.index 60 (.agg arr) (.int .i64 k)).run Tryd.prog w = .ok v w := by
  unfold Instr.index
  have h1 := Tryd.isAgg59 w
  have h2 := Tryd.sizeOf59 w
  have h3 : (asIntOf (.int .i64 k)).run Tryd.prog w = .ok (.i64, (k : Int)) w := rfl
  simp only [Sem.run_bind, run_underlying Tryd.underlying60, Result.andThen, h3]
  rw [if_pos (by omega)]
  simp [Sem.run_bind, h2, part, h1, hv, Result.andThen]

/-- The next bit of a word, and what comes by it. -/
theorem next_bit {g : Nat → Option Int} {k j w m : Nat} (hk : k < 1024) (hm : ∀ i, m.testBit i = (decide (i < 64) && (g (64 * k + i)).isSome))
    (hw : ∀ i, w.testBit i = (decide (j ≤ i) && m.testBit i)) (hlt : w < 2 ^ 64) (h0 : w ≠ 0) :
    ∃ x : Ent, x.a = 64 * k + Lib.ctz 64 w ∧ Lib.ctz 64 w < 64 ∧ g x.a = some x.v ∧ seg g 0 (64 * k + Lib.ctz 64 w) = seg g 0 (64 * k + j) ∧ seg g 0 (64 * k + (Lib.ctz 64 w + 1)) = seg g 0 (64 * k + j) ++ [x] ∧
      (∀ i, (w &&& (w - 1)).testBit i = (decide (Lib.ctz 64 w + 1 ≤ i) && m.testBit i)) ∧ w &&& (w - 1) < w := by
  obtain ⟨ht, h1, h2, h3⟩ := bit_of_lowest w h0 hlt
  generalize Lib.ctz 64 w = t at *
  have hjt : j ≤ t ∧ (g (64 * k + t)).isSome = true := by
    have := hw t
    rw [h1, hm] at this
    simp at this
    exact ⟨this.1, this.2.2⟩
  obtain ⟨v, hv⟩ := Option.isSome_iff_exists.1 hjt.2
  have ha : 64 * k + t < 65536 := by omega
  have hnone : ∀ a, 64 * k + j ≤ a → a < 64 * k + j + (t - j) → g a = none := fun a ha1 ha2 => by
    have e : a = 64 * k + (a - 64 * k) := by omega
    have hb := hw (a - 64 * k)
    rw [h2 _ (by omega), hm, ← e] at hb
    have d1 : j ≤ a - 64 * k := by omega
    have d2 : a - 64 * k < 64 := by omega
    simp [d1, d2] at hb
    exact hb
  have e1 : seg g 0 (64 * k + t) = seg g 0 (64 * k + j) := by
    have := seg_add g 0 (64 * k + j) (t - j)
    rw [Nat.zero_add, seg_none hnone, List.append_nil] at this
    rw [← this]; congr 1; omega
  refine ⟨⟨64 * k + t, v, ha⟩, rfl, ht, hv, e1, ?_, ?_, ?_⟩
  · rw [← Nat.add_assoc, seg_succ, e1, Nat.zero_add]
    simp only [entAt, dif_pos ha, hv]
  · intro i
    rw [h3, hw]
    by_cases c1 : i = t
    · subst c1; simp; omega
    · by_cases c2 : j ≤ i
      · by_cases c3 : t + 1 ≤ i
        · simp [c1, c2, c3]
        · have hf : w.testBit i = false := h2 i (by omega)
          rw [hw] at hf
          simp [c2] at hf
          simp [c1, c2, c3, hf]
      · have c3 : ¬ t + 1 ≤ i := by omega
        simp [c2, c3]
  · exact Nat.lt_of_le_of_lt Nat.and_le_right (by omega)
/-- No bit is left: no byte either. -/
theorem no_bit {g : Nat → Option Int} {k j m : Nat} (hj : j ≤ 64) (hm : ∀ i, m.testBit i = (decide (i < 64) && (g (64 * k + i)).isSome))
    (hw : ∀ i, (0 : Nat).testBit i = (decide (j ≤ i) && m.testBit i)) : seg g 0 (64 * (k + 1)) = seg g 0 (64 * k + j) := by
  have hnone : ∀ a, 64 * k + j ≤ a → a < 64 * k + j + (64 - j) → g a = none := fun a ha1 ha2 => by
    have e : a = 64 * k + (a - 64 * k) := by omega
    have hb := hw (a - 64 * k)
    rw [hm, ← e] at hb
    have d1 : j ≤ a - 64 * k := by omega
    have d2 : a - 64 * k < 64 := by omega
    simp [d1, d2] at hb
    exact hb
  have := seg_add g 0 (64 * k + j) (64 - j)
  rw [Nat.zero_add, seg_none hnone, List.append_nil] at this
  rw [← this]; congr 1; omega

theorem Img.below {A B : World} {n₀ b : Nat} {g : Nat → Option Int} {M : Nat → Nat} (h : Img A b g M) (hb : b < n₀) (k : Below n₀ A B) : Img B b g M :=
  ⟨⟨fun i hi => (k.cell (p := ⟨b, i, none⟩) hb).trans (h.mks.marks i hi), fun o => (k.frozen (p := ⟨b, o, none⟩) hb).trans (h.mks.free o), h.mks.bits⟩, fun a ha => (k.cell (p := ⟨b, 1024 + a, none⟩) hb).trans (h.vals a ha)⟩
theorem Tab.below {A B : World} {n₀ : Nat} (h : Tab A) (hb : 0 < n₀) (k : Below n₀ A B) : Tab B := fun j hj => (k.cell (p := ⟨0, j, none⟩) hb).trans (h j hj)

set_option maxRecDepth 100000 in
set_option maxHeartbeats 4000000 in
theorem all_in (n : Nat) (hn : 1 ≤ n) (l b n₀ : Nat) (g : Nat → Option Int) (M : Nat → Nat) (hb : b < n₀) (h0 : 0 < n₀) (J : List Ent → World → Prop)
    (hY : ∀ pre x W, J pre W → pre.length < 65536 → YieldAt Fence.wide (n - 1) Tryd.prog l #[.int .u16 (x.a : Nat), .int .u8 x.v] W fun e W' => e = .returned (.bool true) ∧ J (pre ++ [x]) W' ∧ Below n₀ W W')
    (W : World) (hI : Img W b g M) (hT : Tab W) (hj : J [] W) :
    CallsIn Fence.wide n Tryd.prog 25 #[.pointer (some ⟨b, 0, none⟩), .func (.yield l) #[] #[]] W fun e W' => (∃ v, e = .returned v) ∧ J (lst g) W' := by
  obtain ⟨arr, harr, hget, hload⟩ := load60 hI.mks
  refine callsIn_of_wp Tryd.func25 rfl trivial ?_ rfl
  simp only [Tryd.ntmps25, List.size_toArray, List.length_cons, List.length_nil, Nat.reduceAdd, Nat.reduceSub, Array.replicate_succ, Array.replicate_zero, List.push_toArray, List.append_toArray, List.nil_append, List.cons_append]
  gi_wp2_with (refine wpListIn_load rfl 60 _ rfl (.agg arr) hload ?_; clear hload)
  gi_loopw [13] (fun i wr => ∃ k : Nat, k ≤ 1024 ∧ i = .int .i64 k ∧ J (seg g 0 (64 * k)) wr ∧ Below n₀ W wr)
    (fun i _ => 1024 - (intOf i).toNat)
  case atStart => exact ⟨0, Nat.zero_le _, rfl, hj, Below.refl _ _⟩
  case round =>
    obtain ⟨k, hk, rfl, hJ, hbl⟩ := hrel
    by_cases hlt : k < 1024
    · have hgk := hget k hlt
      have hix := index60 arr k hlt _ hgk
      have hMk := hI.mks.lt64 k hlt
      have hd : decide ((k : Int) < 1024) = true := by simp; omega
      gi_wp2
      gi_loopw [5] (fun v wi => ∃ (j w : Nat), j ≤ 64 ∧ v = .int .u64 w ∧ w < 18446744073709551616 ∧ Hid (∀ i, w.testBit i = (decide (j ≤ i) && (M k).testBit i)) ∧ J (seg g 0 (64 * k + j)) wi ∧ Below n₀ W wi)
        (fun v _ => (intOf v).toNat)
      case atStart => exact ⟨0, M k, by omega, rfl, hMk, (by intro i; simp : ∀ i, (M k).testBit i = (decide (0 ≤ i) && (M k).testBit i)), hJ, hbl⟩
      case round =>
        obtain ⟨j, x, hj64, rfl, hx64, hbits, hJ2, hbl2⟩ := hrel
        by_cases hx0 : x = 0
        · subst hx0
          have hno := no_bit hj64 (hI.mks.bits k hlt) hbits.out
          gi_wp2
          go_roundw
          case rel => exact ⟨k + 1, by omega, by go_num, by rw [hno]; exact hJ2, hbl2⟩
          case measure => simp [intOf]; omega
        · have hx0' : ((x : Int) == 0) = false := by simp; omega
          obtain ⟨⟨a, v, ha⟩, he1, ht, he2, he3, he4, he5, he6⟩ := next_bit hlt (hI.mks.bits k hlt) hbits.out hx64 hx0
          have htz := tz_any x hx64 hx0 wr (hT.below h0 hbl2)
          have hcell : wr.cell? ⟨b, 1024 + (k * 64 + Lib.ctz 64 x), none⟩ = some (.int .u8 v) := by
            have := (hI.below hb hbl2).vals a ha
            simp only at he1 he2
            rw [show k * 64 + Lib.ctz 64 x = a by omega, this]; show some (Value.int IntKind.u8 ((g a).getD 0)) = _; rw [he2]; rfl
          obtain ⟨fn, tmps, assign, body, hy, hR⟩ := hY _ ⟨a, v, ha⟩ wr hJ2 (by have := seg_length_le g 0 (64 * k + Lib.ctz 64 x); rw [he3] at this; omega)
          have hac : ((a : Nat) : Int) = (k : Int) * 64 + (Lib.ctz 64 x : Nat) := by simp only at he1; omega
          dsimp only at hy
          rw [hac] at hy
          have hw1 : (x : Int) - 1 = ((x - 1 : Nat) : Int) := by omega
          have hand : bits BinOp.and IntKind.u64 (x : Int) ((x - 1 : Nat) : Int) = ((x &&& (x - 1) : Nat) : Int) := bits_and_u64_nat _ _ hx64 (by omega)
          have hbits2 : Hid (∀ i, (x &&& (x - 1)).testBit i = (decide (Lib.ctz 64 x + 1 ≤ i) && (M k).testBit i)) := he5
          clear hbits he1 he2 he3 he5
          generalize Lib.ctz 64 x = t at *
          gi_wp2_with (refine ⟨trivial, ?_⟩; gi_at_call 31; refine (callsIn_wide.2 htz).mono ?_; rintro e w' ⟨rfl, rfl⟩)
          refine hR.mono ?_
          rintro e W3 ⟨rfl, hJ3, hk3⟩
          gi_wp2
          go_roundw
          case rel =>
            exact ⟨t + 1, x &&& (x - 1), by omega, rfl, by omega, hbits2, by rw [he4]; exact hJ3, hbl2.trans hk3⟩
          case measure => simp [intOf]; omega
    · obtain rfl : k = 1024 := by omega
      gi_wp2
      go_end0
      exact ⟨⟨_, rfl⟩, hJ⟩

set_option maxRecDepth 100000 in
set_option maxHeartbeats 1000000 in
theorem all_nil (n l : Nat) (W : World) : CallsIn Fence.wide n Tryd.prog 25 #[.pointer none, .func (.yield l) #[] #[]] W fun e W' => (∃ v, e = .returned v) ∧ W' = W := by
  refine callsIn_of_wp Tryd.func25 rfl trivial ?_ rfl
  simp only [Tryd.ntmps25, List.size_toArray, List.length_cons, List.length_nil, Nat.reduceAdd, Nat.reduceSub, Array.replicate_succ, Array.replicate_zero, List.push_toArray, List.append_toArray, List.nil_append, List.cons_append]
  gi_wp2
  refine bodyPost_ret (results_none rfl _ _ _) rfl ?_
  exact ⟨⟨_, rfl⟩, rfl⟩

/-- The method value p.all goes through xs, whatever keeps what lay below n₀. -/
def Goes (n : Nat) (p : Value) (xs : List Ent) (n₀ : Nat) (w0 : World) : Prop :=
  ∀ (l : Nat) (J : List Ent → World → Prop) (W : World), Below w0.heap.size w0 W →
    (∀ pre x W1, J pre W1 → pre.length < 65536 → YieldAt Fence.wide (n - 1) Tryd.prog l #[.int .u16 (x.a : Nat), .int .u8 x.v] W1 fun e W' => e = .returned (.bool true) ∧ J (pre ++ [x]) W' ∧ Below n₀ W1 W') →
    J [] W → CallsIn Fence.wide n Tryd.prog 25 #[p, .func (.yield l) #[] #[]] W fun e W' => (∃ v, e = .returned v) ∧ J xs W'
theorem goes_img {n b n₀ : Nat} {g : Nat → Option Int} {M : Nat → Nat} {w0 : World} (hn : 1 ≤ n) (hb : b < n₀) (h0 : 0 < n₀) (hle : n₀ ≤ w0.heap.size) (hI : Img w0 b g M) (hT : Tab w0) : Goes n (.pointer (some ⟨b, 0, none⟩)) (lst g) n₀ w0 :=
  fun l J W hW hY hj => all_in n hn l b n₀ g M hb h0 J hY W (hI.below (by omega) hW) (hT.below (by omega) hW) hj
theorem goes_nil (n n₀ : Nat) (w0 : World) : Goes n (.pointer none) [] n₀ w0 :=
  fun l J W _ _ hj => (all_nil n l W).mono fun e W' ⟨he, hw⟩ => ⟨he, by rw [hw]; exact hj⟩

/-- How the body of a round is left: it goes on. -/
def onPost (B n₀ : Nat) (I : List Ent → World → Prop) (xs : List Ent) (W : World) : Exit → Act → World → Prop
  | .normal, _, W' => KeepsFrom B W W' ∧ Below n₀ W W' ∧ I xs W'
  | _, _, _ => False

/-- A loop over the bytes of an image, whose body never leaves it. -/
theorem range_all {n : Nat} {g : Operand} {ps : Array Tmp} {assign body : Code} {Q : Exit → Act → World → Prop} {a : Act} {w : World} (h1 : 1 ≤ n) {p : Value} (hg : a.eval g = .func (.func 25) #[p] #[])
    {xs : List Ent} {n₀ : Nat} (hn₀ : n₀ ≤ w.heap.size) (hseq : Goes (n - 1) p xs n₀ w) (hps : ps.size = 2)
    (I : List Ent → World → Prop) (hI : OwnFrom w.heap.size I) (h0 : I [] w) (a₁ : Ent → Act)
    (hassign : ∀ (l : Nat) (x : Ent) (W : World) (K : Act → World → Prop), K (a₁ x) W →
      assign.wpIn (Fence.wide.inRound l) (n - 1 - 1) Tryd.prog (Exit.then K (fun _ _ _ => False)) { tmps := (ps.zip #[.int .u16 (x.a : Nat), .int .u8 x.v]).foldl (fun t (p, v) => t.setIfInBounds p v) a.tmps, defers := [] } W)
    (hbody : ∀ (l : Nat) (pre : List Ent) (x : Ent) (W : World), I pre W → pre.length < 65536 → body.wpIn (Fence.wide.inRound l) (n - 1 - 1) Tryd.prog (onPost w.heap.size n₀ I (pre ++ [x]) W) (a₁ x) W)
    (hdone : ∀ (D : Nat) (W : World), w.heap.size ≤ D → I xs W → W.heap[D]? = some (.deferred (some [])) → Q .normal { a with defers := { target := .collected D, args := #[] } :: a.defers } W) :
    (Code.rangeFunc g ps assign body).wpIn Fence.wide n Tryd.prog Q a w := by
  refine wpIn_rangeFunc fun fn hfn => ?_
  obtain ⟨rc, hrc⟩ : ∃ rc : LoopState → Loop, rc = fun st => { state := st, pending := none, fn, tmps := a.tmps, params := ps, assign, body, defers := w.heap.size } := ⟨_, rfl⟩
  obtain ⟨W1, hW1⟩ : ∃ W1, (w.alloc (.deferred (some []))).alloc (.loop (rc .ready)) = W1 := ⟨_, rfl⟩
  have hD1 : W1.heap[w.heap.size]? = some (.deferred (some [])) := by
    rw [← hW1, Below.heap_alloc _ _ _ (by simp)]; exact World.alloc_heap_new w _
  have hL1 : W1.heap[w.heap.size + 1]? = some (.loop (rc .ready)) := by
    rw [← hW1]; have := World.alloc_heap_new (w.alloc (.deferred (some []))) (.loop (rc .ready)); rwa [World.size_alloc] at this
  have hB1 : Below w.heap.size w W1 := by
    rw [← hW1]; exact ((Below.refl _ w).alloc (Nat.le_refl _) _).alloc (by simp) _
  have hI1 : I [] W1 := by rw [← hW1]; exact hI.alloc _ (hI.alloc _ h0)
  refine ⟨w.heap.size + 1, [{ target := .collected w.heap.size, args := #[] }], W1, { target := .fn (.func 25) #[], args := #[p, .func (.yield (w.heap.size + 1)) #[] #[]] }, W1, 25, #[p, .func (.yield (w.heap.size + 1)) #[] #[]], W1, ?_, ?_, ?_, ?_, fun _ => h1, ?_⟩
  · rw [← hW1, hrc]; exact run_enterLoop_outer _ _ _ _ _
  · simp only [resolve, hg]
    simp [go_sem]
  · intro f' _; trivial
  · have he : ∀ args w, (callFunc 25 args).run Tryd.prog w = .ok (.enter 25 args) w := enters_of Tryd.func25 (by kernel_rfl) rfl
    simp [invoke, go_sem, he]
  · refine (hseq (w.heap.size + 1) (fun pre W => I pre W ∧ W.heap[w.heap.size + 1]? = some (.loop (rc .ready)) ∧ W.heap[w.heap.size]? = some (.deferred (some []))) W1 hB1 ?_ ⟨hI1, hL1, hD1⟩).mono ?_
    · rintro pre x W ⟨hi, hl, hd⟩ hlen
      have hlt : w.heap.size + 1 < W.heap.size := (Array.getElem?_eq_some_iff.1 hl).1
      have hy := run_yield (P := Tryd.prog) (args := #[.int .u16 (x.a : Nat), .int .u8 x.v]) hl (by rw [hrc]; exact hps.symm)
      have hbg := run_beginRound (P := Tryd.prog) hl (by rw [hrc])
      obtain ⟨W2, hW2⟩ : ∃ W2, W.putObj (w.heap.size + 1) (.loop { rc .ready with state := .busy }) = W2 := ⟨_, rfl⟩
      rw [hW2] at hbg
      have hl2 : W2.heap[w.heap.size + 1]? = some (.loop { rc .ready with state := .busy }) := by rw [← hW2]; exact World.putObj_heap_same hlt
      have hd2 : W2.heap[w.heap.size]? = some (.deferred (some [])) := by rw [← hW2]; exact (World.putObj_heap_other (by omega)).trans hd
      have hb2 : Below n₀ W W2 := by rw [← hW2]; exact belowK_b hn₀ W _ _ _ (by omega) hl rfl rfl
      have hi2 : I pre W2 := by rw [← hW2]; exact hI.putObj _ hi (by omega) hl rfl
      rw [hrc] at hy
      refine ⟨fn, _, assign, body, hy, roundIn_of_wpIn trivial (hassign _ x W _ ⟨W2, hbg, wpIn_mono (hbody _ pre x W2 hi2 hlen) ?_⟩)⟩
      rintro e a3 W3 hp
      cases e with
      | normal =>
        obtain ⟨hk, hb, hi3⟩ := hp
        have hl3 := hk.same _ _ (by omega) hl2 rfl
        have hd3 := hk.same _ _ (Nat.le_refl _) hd2 rfl
        refine ⟨_, _, run_endRound none hl3, rfl, ⟨hI.putObj _ hi3 (by omega) hl3 rfl, ?_, (World.putObj_heap_other (by omega)).trans hd3⟩, (hb2.trans hb).trans (belowK_b hn₀ W3 _ _ _ (by omega) hl3 rfl rfl)⟩
        rw [World.putObj_heap_same (Array.getElem?_eq_some_iff.1 hl3).1, hrc]
        rfl
      | ret => exact hp.elim
      | exit id => exact hp.elim
      | goto t => exact hp.elim
      | panic ch => exact hp.elim
      | outgrown => exact hp.elim
    · rintro e W2 ⟨⟨v, rfl⟩, hi, hl, hd⟩
      have hend := run_endLoop (P := Tryd.prog) hl (by rw [hrc]; simp)
      have hp : (rc LoopState.ready).pending = none := by rw [hrc]
      rw [hp] at hend
      exact ⟨none, _, hend, hdone _ _ (Nat.le_refl _) (hI.putObj _ hi (by omega) hl rfl) ((World.putObj_heap_other (by omega)).trans hd)⟩
end Go.Proofs.YtjodidkjpdjmoaaDoor
