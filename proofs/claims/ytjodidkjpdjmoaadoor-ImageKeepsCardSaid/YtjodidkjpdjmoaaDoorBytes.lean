/- What Bytes and Get do when they are called. -/
import Derived.Test.YtjodidkjpdjmoaaDoorLen
namespace Go.Proofs.YtjodidkjpdjmoaaDoor
open Go.RowKit Go.Shelf
attribute [local go_sem] Oper.semAt_some

def entCells (xs : List Ent) : List Value := xs.flatMap fun x => [.int .u16 (x.a : Nat), .int .u8 x.v]
theorem entCells_snoc (xs : List Ent) (x : Ent) : entCells (xs ++ [x]) = entCells xs ++ [.int .u16 (x.a : Nat), .int .u8 x.v] := by simp [entCells]
theorem info37 : (Tryd.prog.info? 37).map (fun i => (i.zero, i.size, i.bytes)) = some (some (.agg #[.int .u16 0, .int .u8 0]), 2, 4) := by kernel_rfl

set_option maxRecDepth 100000 in
set_option maxHeartbeats 4000000 in
theorem bytes_in (q : Option Addr) (xs : List Ent) (w : World) (hH : Holds w q xs) (N : Nat) (hN : Hid (N = xs.length)) (hle : N ≤ 65536) :
    CallsIn Fence.wide 9 Tryd.prog 13 #[.pointer q] w fun e W' => ∃ v, e = .returned v ∧ W'.ownsRow w.heap.size 37 2 v xs.length (entCells xs) ∧ Below w.heap.size w W' := by
  obtain ⟨i37, p1, p2, p3, p4⟩ := info_parts info37
  have hL := len_any q xs w hH
  rw [← hN.out] at hL
  refine callsIn_of_wp_marks Tryd.func13 rfl trivial ?_ rfl
  simp only [Tryd.ntmps13, List.size_toArray, List.length_cons, List.length_nil, Nat.reduceAdd, Nat.reduceSub, Array.replicate_succ, Array.replicate_zero, List.push_toArray, List.append_toArray, List.nil_append, List.cons_append]
  gi_wp2_with (first | (refine ⟨trivial, ?_⟩; gi_at_call 11; refine (callsIn_wide.2 hL).mono ?_; rintro e w' ⟨rfl, rfl⟩) | (gi_at_make; refine wpListIn_make_own _ rfl _ _ 27 rfl w'.heap.size 37 i37 _ 2 Tryd.underlying27 p1 p2 p3 .i64 .i64 N N rfl rfl rfl (by rw [p4]; omega) (by simp only [maxLen]; omega) (Nat.le_refl _) ?_; intro w1 hown1 hgrow1))
  have hB1 : Below w'.heap.size w' w1 := (Below.refl _ w').grown hgrow1 (Nat.le_refl _) (fun k e => by cases e)
  have hB0 : Below w'.heap.size w' (w1.alloc (.cells #[.slice (some ⟨w'.heap.size, 0, none⟩) 0 N] 27)) := hB1.alloc hB1.size _
  have bO := Boxed.new w1 27 (.slice (some ⟨w'.heap.size, 0, none⟩) 0 N)
  have hsz := hB1.size
  refine range_all (by omega) (p := .pointer q) rfl (by simp; omega) (hH.goes hB0 (by omega)) rfl
    (fun pre W => (∃ v, Boxed W w1.heap.size 27 v ∧ W.ownsRow w'.heap.size 37 2 v pre.length (entCells pre) ∧ True) ∧ Below w'.heap.size w' W)
    (OwnFrom.and (Own.from (holdsRow_own w'.heap.size w1.heap.size 27 37 2 (fun pre : List Ent => pre.length) entCells (fun _ _ => True)) _) (ownFrom_below (Nat.le_refl _) (by simp; omega)))
    ⟨⟨_, bO, hown1.alloc _, trivial⟩, hB0⟩
    (fun x => { tmps := #[.pointer q, undef, .slice none 0 0, .pointer (some ⟨w1.heap.size, 0, none⟩), .int .u16 (x.a : Nat), .int .u8 x.v, .pointer q, .int .i64 N, .slice (some ⟨w'.heap.size, 0, none⟩) 0 N, .pointer q, .func (.func 25) #[.pointer q] #[], .int .u16 (x.a : Nat), .int .u8 x.v, undef, undef, undef, undef, undef, undef, undef], defers := [] }) ?assign ?body ?done
  case assign =>
    intro l x W K hK
    gi_wp2
    exact hK
  case body =>
    rintro l pre x W ⟨⟨v, hv, hrow, _⟩, hB⟩ hlt
    have hc := hv.cell
    gi_wp2_with (gi_at_builtin; refine wpListIn_append_own _ rfl _ _ 27 rfl w'.heap.size 37 i37 (.agg #[.int .u16 0, .int .u8 0]) 2 4 Tryd.underlying27 p1 p2 p3 p4 rfl (by decide) _ _ _ rfl (hrow.alloc _) ⟨W.heap.size, 0, none⟩ 1 1 [.int .u16 (x.a : Nat), .int .u8 x.v] rfl rfl (two_at rfl _ _ _) (by simp [Value.oneCell']) (by simp only [maxLen]; omega) (by omega) (by have := hB.size; simp; omega) ?_; intro v' w2 hown' hgrow _; obtain ⟨g', cap', rfl⟩ := ownsRow_succ hown'; obtain ⟨hv1, hv2, hr2, hk2, hb2⟩ := hv.appended (by decide) hrow hB.size hsz hown' hgrow; have hc1 := hv1.cell; have hf1 := hv1.frozen)
    exact ⟨hk2.from _, hb2, ⟨_, hv2, by rw [entCells_snoc, List.length_append]; exact hr2, trivial⟩, hB.trans hb2⟩
  case done =>
    rintro D W hD ⟨⟨v, hv, hrow, _⟩, hB⟩ hK
    have hc := hv.cell
    gi_wp2
    refine ⟨by simp, .inl ⟨_, _, rfl, run_takeDeferred hK, ?_⟩⟩
    exact ⟨_, results_tmp rfl _ _ _, v, rfl, ownsRow_putObj hrow _ hK rfl, hB.trans (belowK_b (w := w') (Nat.le_refl _) W D _ _ (by simp at hD; omega) hK rfl rfl)⟩
theorem bytes_any (q : Option Addr) (xs : List Ent) (w : World) (hH : Holds w q xs) :
    Calls Tryd.prog 13 #[.pointer q] w fun e W' => ∃ v, e = .returned v ∧ W'.ownsRow w.heap.size 37 2 v xs.length (entCells xs) ∧ Below w.heap.size w W' :=
  callsIn_wide.1 (bytes_in q xs w hH xs.length (rfl : xs.length = xs.length) hH.length)

set_option maxHeartbeats 1000000 in
theorem get_any (b a : Nat) (ha : a < 65536) (g : Nat → Option Int) (M : Nat → Nat) (w : World) (hI : Img w b g M) :
    Calls Tryd.prog 14 #[.pointer (some ⟨b, 0, none⟩), .int .u16 a] w fun e w' => e = .returned (.tuple #[.int .u8 ((g a).getD 0), .bool (g a).isSome]) ∧ w' = w := by
  have hH := has_any b a ha _ M w hI.mks
  have hV := hI.vals a ha
  cases hg : g a with
  | none =>
    simp only [hg, Option.isSome_none] at hH
    go_enter Tryd.func14, Tryd.ntmps14
    go_wp2_with (go_at_call 26; refine hH.mono ?_; rintro e w' ⟨rfl, rfl⟩)
    go_ret2
    exact ⟨rfl, rfl⟩
  | some v =>
    simp only [hg, Option.isSome_some, Option.getD_some] at hH hV
    go_enter Tryd.func14, Tryd.ntmps14
    go_wp2_with (go_at_call 26; refine hH.mono ?_; rintro e w' ⟨rfl, rfl⟩)
    go_ret2
    exact ⟨rfl, rfl⟩
theorem get_nil (a : Nat) (w : World) : Calls Tryd.prog 14 #[.pointer none, .int .u16 a] w fun e w' => e = .returned (.tuple #[.int .u8 0, .bool false]) ∧ w' = w := by
  go_enter Tryd.func14, Tryd.ntmps14
  go_wp2
  go_ret2
  exact ⟨rfl, rfl⟩
theorem put_nil (at_ : Int) (sa : Option Addr) (n cap : Nat) (w : World) : Calls Tryd.prog 22 #[.pointer none, .int .i64 at_, .slice sa n cap] w fun e w' => e = .returned (.int .i64 14) ∧ w' = w := by
  go_enter Tryd.func22, Tryd.ntmps22
  go_wp2
  go_ret
  exact ⟨rfl, rfl⟩
end Go.Proofs.YtjodidkjpdjmoaaDoor
