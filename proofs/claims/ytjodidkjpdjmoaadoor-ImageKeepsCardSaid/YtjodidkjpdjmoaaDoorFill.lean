/- What Fill does when it is called, of an image and of nil: 65536 bytes, each the image's own, else the given one. -/
import Derived.Test.YtjodidkjpdjmoaaDoorRepeat
namespace Go.Proofs.YtjodidkjpdjmoaaDoor
open Go.RowKit Go.Shelf
attribute [local go_sem] Oper.semAt_some

/-- a row of N bytes, written over -/
def Filled (W : World) (q N : Nat) (f : Nat → Int) : Prop := ∀ j, j < N → W.cell? ⟨q, j, none⟩ = some (.int .u8 (f j)) ∧ W.frozen? ⟨q, j, none⟩ = false
def upd (f : Nat → Int) (x : Ent) : Nat → Int := fun j => if j = x.a then x.v else f j
def fillV (l : List Ent) (b : Int) : Nat → Int := l.foldl upd (fun _ => b)
theorem fillV_snoc (l : List Ent) (x : Ent) (b : Int) : fillV (l ++ [x]) b = upd (fillV l b) x := by simp [fillV]
theorem upd_none (j : Nat) : ∀ (l : List Ent) (f : Nat → Int), (∀ x ∈ l, x.a ≠ j) → l.foldl upd f j = f j
  | [], f, _ => rfl
  | x :: l, f, h => by
    rw [List.foldl_cons, upd_none j l (upd f x) (fun y hy => h y (by simp [hy]))]
    unfold upd
    rw [if_neg (fun e => h x (by simp) e.symm)]
theorem upd_some (y : Int) (j : Nat) : ∀ (l : List Ent) (f : Nat → Int), (∀ x ∈ l, x.a = j → x.v = y) → ((∃ x ∈ l, x.a = j) ∨ f j = y) → l.foldl upd f j = y
  | [], f, _, h => by rcases h with ⟨x, hx, _⟩ | h; · simp at hx
                      · exact h
  | x :: l, f, h, hex => by
    rw [List.foldl_cons]
    refine upd_some y j l (upd f x) (fun z hz => h z (by simp [hz])) ?_
    by_cases e : j = x.a
    · exact .inr (by unfold upd; rw [if_pos e]; exact h x (by simp) e.symm)
    · rcases hex with ⟨z, hz, hza⟩ | hf
      · rcases List.mem_cons.1 hz with rfl | hz
        · exact absurd hza.symm e
        · exact .inl ⟨z, hz, hza⟩
      · exact .inr (by unfold upd; rw [if_neg e]; exact hf)
theorem fillV_lst (g : Nat → Option Int) (b : Int) (j : Nat) (hj : j < 65536) : fillV (lst g) b j = (g j).getD b := by
  cases hg : g j with
  | none => exact upd_none j _ _ (fun x hx e => by have := mem_lst.1 hx; rw [e, hg] at this; cases this)
  | some y => exact upd_some y j _ _ (fun x hx e => by have := mem_lst.1 hx; rw [e, hg] at this; exact (Option.some.inj this).symm) (.inl ⟨⟨j, y, hj⟩, mem_lst.2 hg, rfl⟩)
theorem Filled.set {W : World} {q N : Nat} {f : Nat → Int} (h : Filled W q N f) (x : Ent) : Filled (W.setCell ⟨q, x.a, none⟩ (.int .u8 x.v)) q N (upd f x) := by
  intro j hj
  obtain ⟨h1, h2⟩ := h j hj
  refine ⟨?_, by rw [World.frozen?_setCell]; exact h2⟩
  unfold upd
  by_cases e : j = x.a
  · subst e
    rw [if_pos rfl]
    exact World.cell?_setCell_same _ _ _ h1
  · rw [if_neg e, World.cell?_setCell_other _ _ _ _ (fun h => e (by cases h; rfl))]
    exact h1
theorem filled_of_row {W : World} {q N : Nat} {cur : List Value} {v : Int} (h : W.heap[q]? = some (.cells cur.toArray 5 (0, 0))) (ht : cur.take N = List.replicate N (.int .u8 v)) : Filled W q N (fun _ => v) := by
  intro j hj
  refine ⟨cell_of_row h j _ ?_, free_of_row h j⟩
  have h1 : (cur.take N)[j]? = some (.int .u8 v) := by rw [ht, List.getElem?_replicate, if_pos hj]
  rwa [List.getElem?_take_of_lt hj] at h1
theorem Filled.keep {W W' : World} {q N : Nat} {f : Nat → Int} (h : Filled W q N f) (hb : Below W.heap.size W W') : Filled W' q N f := fun j hj => by
  obtain ⟨h1, h2⟩ := h j hj
  have hlt := World.block_lt_of_cell? _ _ h1
  exact ⟨by rw [hb.cell (p := ⟨q, j, none⟩) hlt]; exact h1, by rw [hb.frozen (p := ⟨q, j, none⟩) hlt]; exact h2⟩
theorem filled_own (q box N : Nat) (v : Value) (b : Int) : Own (fun (pre : List Ent) W => Boxed W box 42 v ∧ Filled W q N (fillV pre b)) := by
  rintro pre X Y row ⟨hv, hF⟩ hg hrow
  refine ⟨hv.kept hg (fun e' => ?_), fun j hj => ?_⟩
  · obtain ⟨o, ho, hc⟩ := hrow box e'.symm
    rw [show X.heap[box]? = _ from hv] at ho; cases ho; cases hc
  · obtain ⟨h1, h2⟩ := hF j hj
    exact ⟨cell_kept h1 hg hrow, (frozen_kept h1 hg hrow).trans h2⟩
theorem rep_at (W : World) (b : Int) : Calls Tryd.prog 28 #[.slice (some ⟨W.heap.size, 0, none⟩) 1 1, .int .i64 65536] (W.alloc (.cells #[.int .u8 b] 5)) fun e w' => e = .returned (.slice (some ⟨W.heap.size + 1, 0, none⟩) 65536 65536) ∧
    Filled w' (W.heap.size + 1) 65536 (fillV [] b) ∧ W.heap.size + 1 < w'.heap.size ∧ Below W.heap.size W w' := by
  refine (repeat_any 65536 (by omega) (Nat.le_refl _) W.heap.size b (W.alloc (.cells #[.int .u8 b] 5)) (by simp)).mono ?_
  rintro e w' ⟨he, cur, hg, _, ht, hB⟩
  have hsz : (W.alloc (.cells #[.int .u8 b] 5)).heap.size = W.heap.size + 1 := by simp
  rw [hsz] at he hg hB
  refine ⟨he, filled_of_row hg ht, (Array.getElem?_eq_some_iff.1 hg).1, ((Below.refl _ _).alloc (Nat.le_refl _) _).trans (hB.mono (by omega))⟩
theorem grownBy_at (W : World) (b o : Nat) (v : Value) : W.grownBy (W.setCell ⟨b, o, none⟩ v) (some b) :=
  ⟨rfl, rfl, rfl, (KeepsWalks.setCell W _ v).size, fun k _ hk => Below.heap_setCell _ _ _ k (fun e => hk (by rw [e]))⟩
set_option maxRecDepth 100000 in
set_option maxHeartbeats 4000000 in
theorem fill_in (p : Option Addr) (xs : List Ent) (w : World) (hH : Holds w p xs) (b : Int) :
    CallsIn Fence.wide 9 Tryd.prog 19 #[.pointer p, .int .u8 b] w fun e W' => e = .returned (.slice (some ⟨w.heap.size + 1, 0, none⟩) 65536 65536) ∧ Filled W' (w.heap.size + 1) 65536 (fillV xs b) ∧ Below w.heap.size w W' := by
  have hR := rep_at w b
  refine callsIn_of_wp_marks Tryd.func19 rfl trivial ?_ rfl
  simp only [Tryd.ntmps19, List.size_toArray, List.length_cons, List.length_nil, Nat.reduceAdd, Nat.reduceSub, Array.replicate_succ, Array.replicate_zero, List.push_toArray, List.append_toArray, List.nil_append, List.cons_append]
  gi_wp2_with (first | (refine ⟨trivial, ?_⟩; gi_at_call 28; refine (callsIn_wide.2 hR).mono ?_; rintro e W1 ⟨rfl, hF1, hlt1, hB1⟩))
  have bO := Boxed.new W1 42 (.slice (some ⟨w.heap.size + 1, 0, none⟩) 65536 65536)
  have hB0 : Below w.heap.size w (W1.alloc (.cells #[.slice (some ⟨w.heap.size + 1, 0, none⟩) 65536 65536] 42)) := hB1.alloc hB1.size _
  have hF0 : Filled (W1.alloc (.cells #[.slice (some ⟨w.heap.size + 1, 0, none⟩) 65536 65536] 42)) (w.heap.size + 1) 65536 (fillV [] b) := hF1.keep ((Below.refl _ _).alloc (Nat.le_refl _) _)
  refine range_all (by omega) (p := .pointer p) rfl (by simp; omega) (hH.goes hB0 (by omega)) rfl
    (fun pre W => (Boxed W W1.heap.size 42 (.slice (some ⟨w.heap.size + 1, 0, none⟩) 65536 65536) ∧ Filled W (w.heap.size + 1) 65536 (fillV pre b)) ∧ Below w.heap.size w W)
    (OwnFrom.and (Own.from (filled_own (w.heap.size + 1) W1.heap.size 65536 _ b) _) (ownFrom_below (Nat.le_refl _) (by simp; omega)))
    ⟨⟨bO, hF0⟩, hB0⟩
    (fun x => { tmps := #[.pointer p, .int .u8 b, undef, undef, .slice none 0 0, .pointer (some ⟨W1.heap.size, 0, none⟩), .int .u16 (x.a : Nat), .int .u8 x.v, .int .u8 b, .slice (some ⟨w.heap.size, 0, none⟩) 1 1, .slice (some ⟨w.heap.size + 1, 0, none⟩) 65536 65536, .pointer p, .func (.func 25) #[.pointer p] #[], .int .u16 (x.a : Nat), .int .u8 x.v, undef, undef, undef, undef, undef], defers := [] }) ?assign ?body ?done
  case assign =>
    intro l x W K hK
    gi_wp2
    exact hK
  case body =>
    rintro l pre x W ⟨⟨hv, hF⟩, hB⟩ hlt
    have hc := hv.cell
    have hxa := x.h
    obtain ⟨hf1, hf2⟩ := hF x.a hxa
    have hF2 := hF.set x
    rw [← fillV_snoc] at hF2
    have HF := Lib.hid hF2
    clear hF hF2
    gi_wp2
    exact ⟨(KeepsOthers.setCell W _ _).from _, (Below.refl _ W).setCell (by simp) _, ⟨hv.kept (grownBy_at W _ _ _) (by simp; omega), HF.out⟩, hB.setCell (by simp) _⟩
  case done =>
    rintro D W hD ⟨⟨hv, hF⟩, hB⟩ hK
    have hc := hv.cell
    gi_wp2
    refine ⟨by simp, .inl ⟨_, _, rfl, run_takeDeferred hK, ?_⟩⟩
    have hDB : Below w.heap.size W (W.putObj D (.deferred none)) := belowK_b (w := w) (Nat.le_refl _) W D _ _ (by simp at hD; omega) hK rfl rfl
    refine ⟨_, results_tmp rfl _ _ _, rfl, ?_, hB.trans hDB⟩
    intro j hj
    obtain ⟨h1, h2⟩ := hF j hj
    exact ⟨cell_kept h1 (grownBy_putObj' W D _) (fun r e => by cases e; exact ⟨_, hK, rfl⟩), (frozen_kept h1 (grownBy_putObj' W D _) (fun r e => by cases e; exact ⟨_, hK, rfl⟩)).trans h2⟩
theorem fill_any (p : Option Addr) (xs : List Ent) (w : World) (hH : Holds w p xs) (b : Int) :
    Calls Tryd.prog 19 #[.pointer p, .int .u8 b] w fun e W' => e = .returned (.slice (some ⟨w.heap.size + 1, 0, none⟩) 65536 65536) ∧ Filled W' (w.heap.size + 1) 65536 (fillV xs b) ∧ Below w.heap.size w W' :=
  callsIn_wide.1 (fill_in p xs w hH b)
end Go.Proofs.YtjodidkjpdjmoaaDoor
