/- A call that draws nothing and touches no memory, run by itself: what the kernel reckons of it, it answers in every world; a law of such a kind likewise, where what its callees answer is said; no condition. -/
import Derived.Test.YtlindlmcojmhcaaDoorProg
import Derived.WalkKit
import Derived.Lib.Hide
import Derived.Below
namespace Go.Proofs.YtlindlmcojmhcaaDoor
open Go.RowKit

/-- a step's answer, where it asks nothing of the world -/
def evS {α : Type} (P : Program) : Sem α → Option α
  | .pure a => some a
  | .program k => evS P (k P)
  | .mark _ k => evS P k
  | _ => none
theorem evS_sound {α : Type} {P : Program} : ∀ (s : Sem α) (v : α), evS P s = some v → ∀ w, s.run P w = .ok v w := by
  intro s
  induction s with
  | pure a => intro v h w; simp only [evS, Option.some.injEq] at h; subst h; rfl
  | program k ih => intro v h w; exact ih P v h w
  | mark m k ih => intro v h w; exact ih v h w
  | _ => intro v h; simp [evS] at h
/-- slots that were set, the last first -/
abbrev Env := List (Nat × Value)
def look : Env → Nat → Value
  | [], _ => undef
  | (s, v) :: r, t => match Nat.beq s t with
    | true => v
    | false => look r t
def rhoE (E : Env) : Operand → Value
  | .tmp t => look E t
  | .const v => v
  | .global g => .pointer (some ⟨g, 0, none⟩)
  | .func f => .func (.func f) #[] #[]
def yieldE (ops : Array Oper) (E : Env) (j : Nat) : Option Bool := match (ops[j]?).bind (·.dst) with
  | some d => match look E d with
    | .bool b => some b
    | _ => none
  | none => none
structure Rep (n : Nat) (E : Env) (a : Act) : Prop where
  size : a.tmps.size = n
  at_ : ∀ t, a.tmps.getD t undef = look E t
  defers : a.defers = []
theorem Rep.eval {n : Nat} {E : Env} {a : Act} (h : Rep n E a) : a.eval = rhoE E := by
  funext x
  cases x with
  | tmp t => exact h.at_ t
  | _ => rfl
theorem Rep.yield {n : Nat} {E : Env} {a : Act} (h : Rep n E a) (ops : Array Oper) : yielded ops a.tmps = yieldE ops E := by
  funext j
  unfold yielded yieldE
  cases (ops[j]?).bind (·.dst) with
  | none => rfl
  | some d =>
    have h1 := h.at_ d
    simp only [Option.bind_some]
    rw [← h1, Array.getD_eq_getD_getElem?]
    cases a.tmps[d]? with
    | none => rfl
    | some v => cases v <;> rfl
theorem beq_ne {a b : Nat} (h : a ≠ b) : Nat.beq a b = false := by
  cases e : Nat.beq a b with
  | false => rfl
  | true => exact absurd (Nat.eq_of_beq_eq_true e) h
theorem Rep.put {n : Nat} {E : Env} {a : Act} (h : Rep n E a) {d : Nat} (hd : d < n) (v : Value) : Rep n ((d, v) :: E) (a.put (some d) v) := by
  refine ⟨by simp [Act.put, h.size], fun t => ?_, h.defers⟩
  have h1 := h.at_ t
  simp only [Act.put, look]
  rw [Array.getD_eq_getD_getElem?] at h1 ⊢
  rw [Array.getElem?_setIfInBounds]
  by_cases e : d = t
  · subst e
    rw [if_pos rfl, if_pos (by rw [h.size]; exact hd), Nat.beq_refl]
    rfl
  · rw [if_neg e, beq_ne e]
    exact h1
theorem Rep.put_none {n : Nat} {E : Env} {a : Act} (h : Rep n E a) (v : Value) : Rep n E (a.put none v) := h
/-- a slot set -/
def putE {β : Type} (n : Nat) (E : Env) (dst : Option Tmp) (v : Value) (k : Env → Option β) : Option β := match dst with
  | some d => match Nat.blt d n with
    | true => k ((d, v) :: E)
    | false => none
  | none => k E
theorem putE_some {β : Type} {n : Nat} {E : Env} {dst : Option Tmp} {v : Value} {k : Env → Option β} {x : β} (h : putE n E dst v k = some x) {a : Act} (hr : Rep n E a) : ∃ E', k E' = some x ∧ Rep n E' (a.put dst v) := by
  unfold putE at h
  cases dst with
  | none => exact ⟨E, h, hr⟩
  | some d =>
    simp only at h
    split at h
    · rename_i hb
      exact ⟨_, h, hr.put (Nat.le_of_ble_eq_true hb) v⟩
    · cases h
/-- operations one after another, run by themselves -/
def evL (C : FuncId → Array Value → Option Value) (P : Program) (n : Nat) (ops : Array Oper) : List Oper → Env → Option Env
  | [], E => some E
  | o :: rest, E => match Region.wanted o (yieldE ops E) with
    | true => match evS P (execOp (rhoE E) o) with
      | some (.value v) => putE n E o.dst v (evL C P n ops rest)
      | some (.enter f args) => match C f args with
        | some v => putE n E o.dst v (evL C P n ops rest)
        | none => none
      | _ => none
    | false => putE n E o.dst undef (evL C P n ops rest)
/-- code without draws and loops, run by itself -/
def evC (C : FuncId → Array Value → Option Value) (P : Program) (n : Nat) : Code → Env → Option (Exit × Env)
  | .skip, E => some (.normal, E)
  | .region _ ops false, E => match evL C P n ops ops.toList E with
    | some E1 => some (.normal, E1)
    | none => none
  | .seq x y, E => match evC C P n x E with
    | some (.normal, E1) => evC C P n y E1
    | r => r
  | .cond c x y, E => match rhoE E c with
    | .bool true => evC C P n x E
    | .bool false => evC C P n y E
    | _ => none
  | .block id c, E => match evC C P n c E with
    | some (.exit j, E1) => match Nat.decEq j id with
      | .isTrue _ => some (.normal, E1)
      | .isFalse _ => some (.exit j, E1)
    | r => r
  | .exit id, E => some (.exit id, E)
  | .ret, E => some (.ret, E)
  | _, _ => none
def initE : Nat → List Value → Env
  | _, [] => []
  | i, v :: r => (i, v) :: initE (i + 1) r
theorem look_init : ∀ (l : List Value) (i t : Nat), look (initE i l) t = if i ≤ t then (l[t - i]?).getD undef else undef := by
  intro l
  induction l with
  | nil => intro i t; simp [initE, look]
  | cons v l ih =>
    intro i t
    unfold initE look
    by_cases e : i = t
    · subst e
      rw [Nat.beq_refl]
      simp
    · rw [beq_ne e]
      simp only
      rw [ih]
      by_cases h : i ≤ t
      · rw [if_pos h, if_pos (by omega), show t - i = t - (i + 1) + 1 by omega]
        rfl
      · rw [if_neg h, if_neg (by omega)]
theorem rep_init {n : Nat} {args : Array Value} (h : args.size ≤ n) : Rep n (initE 0 args.toList) { tmps := args ++ Array.replicate (n - args.size) undef, defers := [] } := by
  refine ⟨by simp; omega, fun t => ?_, rfl⟩
  rw [look_init, if_pos (Nat.zero_le _), Nat.sub_zero, Array.getD_eq_getD_getElem?]
  by_cases ht : t < args.size
  · rw [Array.getElem?_append_left ht]
    simp
  · rw [Array.getElem?_append_right (by omega)]
    have e : args.toList[t]? = none := List.getElem?_eq_none (by simpa using ht)
    rw [e]
    rw [Array.getElem?_replicate]
    split <;> rfl
/-- what a function answers, by itself -/
def evB0 (C : FuncId → Array Value → Option Value) (P : Program) (f : FuncId) (args : Array Value) : Option Value := match P.funcs[f]? with
  | some fn => match fn.body with
    | some c => match Nat.ble args.size fn.ntmps with
      | true => match evC C P fn.ntmps c (initE 0 args.toList) with
        | some (.ret, E) => match fn.results.toList with
          | [.tmp t] => some (look E t)
          | _ => none
        | _ => none
      | false => none
    | none => none
  | none => none
/-- a call, run by itself -/
def evF (P : Program) : Nat → FuncId → Array Value → Option Value
  | 0, _, _ => none
  | n + 1, f, args => evB0 (evF P n) P f args
theorem evL_sound {C : FuncId → Array Value → Option Value} {P : Program} {S : World → Prop} (hC : ∀ f args v, C f args = some v → ∀ w, S w → Calls P f args w fun e w1 => e = .returned v ∧ S w1)
    {n : Nat} {ops : Array Oper} {Q : Exit → Act → World → Prop} : ∀ (l : List Oper) (E E' : Env) (a : Act) (w : World), evL C P n ops l E = some E' → Rep n E a → S w → (∀ a' w', Rep n E' a' → S w' → Q .normal a' w') → wpList P ops Q l a w := by
  intro l
  induction l with
  | nil =>
    intro E E' a w h hr hs hQ
    simp only [evL, Option.some.injEq] at h
    subst h
    exact hQ a w hr hs
  | cons o rest ih =>
    intro E E' a w h hr hs hQ
    unfold evL at h
    unfold wpList
    rw [hr.yield]
    split at h
    · rename_i hw
      rw [if_pos hw]
      refine .inl ?_
      unfold Oper.wp
      rw [hr.eval]
      split at h
      · rename_i v e
        rw [evS_sound _ _ e w]
        obtain ⟨E1, h1, hr1⟩ := putE_some h hr
        exact ih _ _ _ _ h1 hr1 hs hQ
      · rename_i f args e
        rw [evS_sound _ _ e w, Oper.upon_enter]
        split at h
        · rename_i v e2
          obtain ⟨E1, h1, hr1⟩ := putE_some h hr
          refine (hC _ _ _ e2 w hs).mono ?_
          rintro _ w1 ⟨rfl, hs1⟩
          exact ih _ _ _ _ h1 hr1 hs1 hQ
        · cases h
      · cases h
    · rename_i hw
      rw [if_neg (by rw [hw]; decide)]
      obtain ⟨E1, h1, hr1⟩ := putE_some h hr
      exact ih _ _ _ _ h1 hr1 hs hQ
theorem evC_sound {C : FuncId → Array Value → Option Value} {P : Program} {S : World → Prop} (hC : ∀ f args v, C f args = some v → ∀ w, S w → Calls P f args w fun e w1 => e = .returned v ∧ S w1) {n : Nat} :
    ∀ (c : Code) (E : Env) (a : Act) (w : World) (e : Exit) (E' : Env) (Q : Exit → Act → World → Prop), evC C P n c E = some (e, E') → Rep n E a → S w → (∀ a' w', Rep n E' a' → S w' → Q e a' w') → c.wp P Q a w := by
  intro c
  induction c with
  | skip =>
    intro E a w e E' Q h hr hs hQ
    simp only [evC, Option.some.injEq, Prod.mk.injEq] at h
    obtain ⟨rfl, rfl⟩ := h
    exact wp_skip (hQ _ _ hr hs)
  | region id ops draw =>
    intro E a w e E' Q h hr hs hQ
    cases draw with
    | true => simp [evC] at h
    | false =>
      unfold evC at h
      split at h
      · rename_i a1 e1
        simp only [Option.some.injEq, Prod.mk.injEq] at h
        obtain ⟨rfl, rfl⟩ := h
        exact wp_region_list (evL_sound hC _ _ _ _ _ e1 hr hs hQ)
      · cases h
  | seq x y ihx ihy =>
    intro E a w e E' Q h hr hs hQ
    unfold evC at h
    refine wp_seq ?_
    split at h
    · rename_i E1 e1
      exact ihx _ _ _ _ _ _ e1 hr hs (fun a1 w1 hr1 hs1 => ihy _ _ _ _ _ _ h hr1 hs1 hQ)
    · rename_i r hr0
      refine ihx _ _ _ _ _ _ h hr hs (fun a1 w1 hr1 hs1 => ?_)
      cases e with
      | normal => exact absurd h (hr0 _)
      | _ => exact hQ _ _ hr1 hs1
  | cond c x y ihx ihy =>
    intro E a w e E' Q h hr hs hQ
    unfold evC at h
    rw [← hr.eval] at h
    split at h
    · rename_i e1
      exact wp_cond (t := true) e1 (ihx _ _ _ _ _ _ h hr hs hQ)
    · rename_i e1
      exact wp_cond (t := false) e1 (ihy _ _ _ _ _ _ h hr hs hQ)
    · cases h
  | block id c ih =>
    intro E a w e E' Q h hr hs hQ
    unfold evC at h
    refine wp_block ?_
    split at h
    · rename_i j E1 e1
      split at h
      · rename_i hj _
        simp only [Option.some.injEq, Prod.mk.injEq] at h
        obtain ⟨rfl, rfl⟩ := h
        refine ih _ _ _ _ _ _ e1 hr hs (fun a1 w1 hr1 hs1 => ?_)
        simp only [Exit.inBlock]
        rw [if_pos hj]
        exact hQ _ _ hr1 hs1
      · rename_i hj _
        simp only [Option.some.injEq, Prod.mk.injEq] at h
        obtain ⟨rfl, rfl⟩ := h
        refine ih _ _ _ _ _ _ e1 hr hs (fun a1 w1 hr1 hs1 => ?_)
        simp only [Exit.inBlock]
        rw [if_neg hj]
        exact hQ _ _ hr1 hs1
    · rename_i r hr0
      refine ih _ _ _ _ _ _ h hr hs (fun a1 w1 hr1 hs1 => ?_)
      cases e with
      | exit j => exact absurd h (hr0 _ _)
      | _ => exact hQ _ _ hr1 hs1
  | exit id =>
    intro E a w e E' Q h hr hs hQ
    simp only [evC, Option.some.injEq, Prod.mk.injEq] at h
    obtain ⟨rfl, rfl⟩ := h
    exact wp_exit (hQ _ _ hr hs)
  | ret =>
    intro E a w e E' Q h hr hs hQ
    simp only [evC, Option.some.injEq, Prod.mk.injEq] at h
    obtain ⟨rfl, rfl⟩ := h
    exact wp_ret (hQ _ _ hr hs)
  | _ => intro E a w e E' Q h; simp [evC] at h
theorem evB0_sound {C : FuncId → Array Value → Option Value} {P : Program} {S : World → Prop} (hC : ∀ f args v, C f args = some v → ∀ w, S w → Calls P f args w fun e w1 => e = .returned v ∧ S w1) {f : FuncId} {args : Array Value} {v : Value}
    (h : evB0 C P f args = some v) (w : World) (hs : S w) : Calls P f args w fun e w1 => e = .returned v ∧ S w1 := by
  unfold evB0 at h
  split at h
  · rename_i fn hf
    split at h
    · rename_i c hc
      split at h
      · rename_i hn
        split at h
        · rename_i E e1
          split at h
          · rename_i t hr
            simp only [Option.some.injEq] at h
            refine calls_of_wp hf hc (evC_sound hC _ _ _ _ _ _ _ e1 (rep_init (Nat.le_of_ble_eq_true hn)) hs fun a w1 hr1 hs1 => ?_)
            have : fn.results = #[.tmp t] := Array.toList_inj.1 hr
            refine bodyPost_ret (v := v) ?_ hr1.defers ⟨rfl, hs1⟩
            have e := hr1.at_ t
            rw [h, Array.getD_eq_getD_getElem?] at e
            simp [results, this, e]
          · cases h
        · cases h
      · cases h
    · cases h
  · cases h
theorem evF_sound {P : Program} : ∀ (n : Nat) (f : FuncId) (args : Array Value) (v : Value), evF P n f args = some v → ∀ w, Calls P f args w fun e w1 => e = .returned v ∧ w1 = w := by
  intro n
  induction n with
  | zero => intro f args v h; simp [evF] at h
  | succ n ih =>
    intro f args v h w
    unfold evF at h
    exact evB0_sound (S := fun w1 => w1 = w) (fun f args v h w1 hw => by subst hw; exact ih f args v h w1) h w rfl
/-- whether a call of texts answers a text, by itself -/
def evT (P : Program) (n : Nat) (f : FuncId) (args : List (List UInt8)) (s : List UInt8) : Bool := match evF P n f (args.map fun x => Value.string ⟨x.toArray⟩).toArray with
  | some (.string b) => decide (b.data.toList = s)
  | _ => false
/-- whether a call of texts answers a bool, by itself -/
def evB (P : Program) (n : Nat) (f : FuncId) (args : List (List UInt8)) (t : Bool) : Bool := match evF P n f (args.map fun x => Value.string ⟨x.toArray⟩).toArray with
  | some (.bool b) => b == t
  | _ => false
/-- whether a law answers true, by itself -/
def evLaw (C : FuncId → Array Value → Option Value) (P : Program) (f : FuncId) (args : Array Value) : Bool := match evB0 C P f args with
  | some (.bool true) => true
  | _ => false
theorem evT_sound {P : Program} {n : Nat} {f : FuncId} {args : List (List UInt8)} {s : List UInt8} (h : evT P n f args s = true) (w : World) :
    Calls P f (args.map fun x => Value.string ⟨x.toArray⟩).toArray w fun e w1 => e = .returned (.string ⟨s.toArray⟩) ∧ w1 = w := by
  unfold evT at h
  split at h
  · rename_i b e
    have hb : b = ⟨s.toArray⟩ := by
      apply ByteArray.ext
      apply Array.toList_inj.1
      exact of_decide_eq_true h
    subst hb
    exact evF_sound _ _ _ _ e w
  · cases h
theorem evB_sound {P : Program} {n : Nat} {f : FuncId} {args : List (List UInt8)} {t : Bool} (h : evB P n f args t = true) (w : World) :
    Calls P f (args.map fun x => Value.string ⟨x.toArray⟩).toArray w fun e w1 => e = .returned (.bool t) ∧ w1 = w := by
  unfold evB at h
  split at h
  · rename_i b e
    rw [beq_iff_eq] at h
    subst h
    exact evF_sound _ _ _ _ e w
  · cases h
theorem evLaw_sound {C : FuncId → Array Value → Option Value} {P : Program} {S : World → Prop} (hC : ∀ f args v, C f args = some v → ∀ w, S w → Calls P f args w fun e w1 => e = .returned v ∧ S w1) {f : FuncId} {args : Array Value}
    (h : evLaw C P f args = true) (w : World) (hs : S w) : Calls P f args w fun e w1 => e = .returned (.bool true) ∧ S w1 := by
  unfold evLaw at h
  split at h
  · rename_i e
    exact evB0_sound hC e w hs
  · cases h
end Go.Proofs.YtlindlmcojmhcaaDoor
