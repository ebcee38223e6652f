/- What Runs does when it is called: the runs of the image's bytes, in rows of its own. -/
import Derived.Test.YtjodidkjpdjmoaaDoorRuns0
namespace Go.Proofs.YtjodidkjpdjmoaaDoor
open Go.RowKit Go.Shelf
attribute [local go_sem] Oper.semAt_some

theorem runsRev_p (l : List Ent) : ∀ r ∈ runsRev l, r.p < 65536 := by
  suffices h : ∀ (l : List Ent), ∀ r ∈ runsRev l.reverse, r.p < 65536 by
    have := h l.reverse; simpa using this
  intro l
  induction l with
  | nil => simp [runsRev]
  | cons x l ih =>
    rw [List.reverse_cons, runsRev_snoc]
    cases hr : runsRev l.reverse with
    | nil => simp only [stepR, List.mem_singleton]; rintro r rfl; exact x.h
    | cons r t =>
      rw [hr] at ih
      by_cases e : r.p + r.bs.length = x.a
      · rw [stepR, if_pos e]
        intro y hy
        rcases List.mem_cons.1 hy with rfl | hy
        · exact ih r (List.mem_cons_self ..)
        · exact ih y (List.mem_cons_of_mem _ hy)
      · rw [stepR, if_neg e]
        intro y hy
        rcases List.mem_cons.1 hy with rfl | hy
        · exact x.h
        · exact ih y hy
theorem runs_own (B : Nat) : Own (fun (pre : List Ent) W => ∃ v ps, Boxed W B 38 v ∧ ps.map (·.1) = runsRev pre ∧ RunsAt W B 44 v ps) := by
  rintro pre X Y row ⟨v, ps, hv, hps, hR⟩ hg hrow
  refine ⟨v, ps, hv.kept hg (fun e' => ?_), hps, hR.kept hg (fun r e => ?_)⟩
  · obtain ⟨o, ho, hc⟩ := hrow B e'.symm
    rw [show X.heap[B]? = _ from hv] at ho; cases ho; cases hc
  · obtain ⟨o, ho, hc⟩ := hrow r e
    exact ⟨o, ho, fun c e1 => (by rw [e1] at hc; cases hc), fun c e1 => (by rw [e1] at hc; cases hc)⟩

theorem KeepsOthers.own {W w1 : World} {B : Nat} {e : TypeId} {s : Nat} {v : Value} {n : Nat} {xs : List Value} (h : W.ownsRow B e s v n xs) (hg : W.grownBy w1 v.ownBlock) : KeepsOthers W w1 :=
  KeepsOthers.of_grownBy hg fun j o ej hj => by
    obtain ⟨c, hc⟩ := own_tag h ej
    rw [hc] at hj; cases hj; rfl

theorem run_added {W w1 : World} {B box : Nat} {v v' : Value} {ps : List (Run × Value)} {a : Nat} (hv : Boxed W box 38 v) (hR : RunsAt W B 44 v ps) (hB : B ≤ W.heap.size) (hb : B ≤ box)
    (hown : w1.ownsRow B 44 2 v' (ps.length + 1) (runCells ps ++ [.int .u16 (a : Nat), .slice none 0 0])) (hg : (W.alloc (.cells #[.int .u16 (a : Nat), .slice none 0 0] 44)).grownBy w1 v.ownBlock) :
    ∃ g cap, v' = .slice (some ⟨g, 0, none⟩) (ps.length + 1) cap ∧ Boxed w1 box 38 v ∧ Boxed (w1.setCell ⟨box, 0, none⟩ v') box 38 v' ∧ RunsAt (w1.setCell ⟨box, 0, none⟩ v') B 44 v' ((⟨a, []⟩, .slice none 0 0) :: ps) ∧
      KeepsOthers W (w1.setCell ⟨box, 0, none⟩ v') ∧ Below B W (w1.setCell ⟨box, 0, none⟩ v') := by
  obtain ⟨g, cap, hv'⟩ := ownsRow_succ hown
  obtain ⟨h1, h2, _, h4, h5⟩ := hv.appended (by decide) hR.row hB hb hown hg
  have hA : RunsAt w1 B 44 v' ((⟨a, []⟩, .slice none 0 0) :: ps) := (hR.alloc _).add (by decide) hown hg (World.ownsRow_nil _ _ _ _) (fun x _ q hq => by simp [Value.ownBlock] at hq)
  exact ⟨g, cap, hv', h1, h2, hA.kept (grownBy_setCell' w1 box v') (fun r e => by cases e; exact ⟨_, h1, fun c e1 => (by cases e1), fun c e1 => (by cases e1)⟩), h4, h5⟩

theorem run_longer {W w1 : World} {B box g cap : Nat} {vb vb' : Value} {r : Run} {t : List (Run × Value)} {x : Int} (hv : Boxed W box 38 (.slice (some ⟨g, 0, none⟩) (t.length + 1) cap)) (hR : RunsAt W B 44 (.slice (some ⟨g, 0, none⟩) (t.length + 1) cap) ((r, vb) :: t)) (hB : B ≤ W.heap.size)
    (hown : w1.ownsRow B 5 1 vb' (r.bs.length + 1) (r.bs.map (Value.int .u8) ++ [.int .u8 x])) (hg : (W.alloc (.cells #[.int .u8 x] 5)).grownBy w1 vb.ownBlock) (hat : vb'.ownBlock = vb.ownBlock ∨ vb'.ownBlock = some (W.alloc (.cells #[.int .u8 x] 5)).heap.size) :
    ∃ g' cap', vb' = .slice (some ⟨g', 0, none⟩) (r.bs.length + 1) cap' ∧ w1.cell? ⟨g, t.length * 2 + 1, none⟩ = some vb ∧ w1.frozen? ⟨g, t.length * 2 + 1, none⟩ = false ∧
      Boxed (w1.setCell ⟨g, t.length * 2 + 1, none⟩ vb') box 38 (.slice (some ⟨g, 0, none⟩) (t.length + 1) cap) ∧ RunsAt (w1.setCell ⟨g, t.length * 2 + 1, none⟩ vb') B 44 (.slice (some ⟨g, 0, none⟩) (t.length + 1) cap) ((⟨r.p, r.bs ++ [x]⟩, vb') :: t) ∧
      KeepsOthers W (w1.setCell ⟨g, t.length * 2 + 1, none⟩ vb') ∧ Below B W (w1.setCell ⟨g, t.length * 2 + 1, none⟩ vb') := by
  obtain ⟨g', cap', hv'⟩ := ownsRow_succ hown
  have hA := hR.alloc (.cells #[.int .u8 x] 5)
  have hb := hA.bytes (r, vb) (List.mem_cons_self ..)
  have hrow := hA.row.kept hg (own_apart hA.row hb (by decide))
  have hL := hA.longer (by decide) hown hg (hat.imp id fun h => ⟨_, h, Nat.le_refl _⟩)
  rw [Nat.mul_comm 2 t.length] at hL
  have hbox1 : Boxed w1 box 38 (.slice (some ⟨g, 0, none⟩) (t.length + 1) cap) := (hv.alloc _).kept hg ((hv.alloc _).not_row (by decide) hb)
  have hcl := row_last hrow
  refine ⟨g', cap', hv', hcl.2.1, hcl.2.2, hbox1.kept (grown_set (World.grownBy.refl w1 _) _ _) (fun e1 => ?_), hL, ?_, ?_⟩
  · obtain ⟨c, hc⟩ := own_tag hrow (q := g) rfl
    have e2 : box = g := by injection e1
    rw [← e2, show w1.heap[box]? = _ from hbox1] at hc; cases hc
  · exact ((KeepsOthers.alloc W _).trans (KeepsOthers.own hb hg)).trans (KeepsOthers.setCell _ _ _)
  · exact (((Below.refl B W).alloc hB _).grown hg (by simp; omega) fun j ej => (hb.lt j ej).1).setCell (p := ⟨g, t.length * 2 + 1, none⟩) (hrow.lt g rfl).1 _

set_option maxRecDepth 100000 in
set_option maxHeartbeats 4000000 in
theorem runs_in (q : Option Addr) (xs : List Ent) (w : World) (hH : Holds w q xs) :
    CallsIn Fence.wide 9 Tryd.prog 16 #[.pointer q] w fun e W' => ∃ v ps, e = .returned v ∧ ps.map (·.1) = runsRev xs ∧ RunsAt W' w.heap.size 44 v ps ∧ Below w.heap.size w W' := by
  obtain ⟨i44, p1, p2, p3, p4⟩ := info_parts info44
  obtain ⟨i5, q1, q2, q3, q4⟩ := info_parts info5
  refine callsIn_of_wp_marks Tryd.func16 rfl trivial ?_ rfl
  simp only [Tryd.ntmps16, List.size_toArray, List.length_cons, List.length_nil, Nat.reduceAdd, Nat.reduceSub, Array.replicate_succ, Array.replicate_zero, List.push_toArray, List.append_toArray, List.nil_append, List.cons_append]
  gi_wp2
  have bO := Boxed.new w 38 (.slice none 0 0)
  have hB0 : Below w.heap.size w (w.alloc (.cells #[.slice none 0 0] 38)) := (Below.refl _ w).alloc (Nat.le_refl _) _
  refine range_all (by omega) (p := .pointer q) rfl (by simp) (hH.goes hB0 (by omega)) rfl
    (fun pre W => (∃ v ps, Boxed W w.heap.size 38 v ∧ ps.map (·.1) = runsRev pre ∧ RunsAt W w.heap.size 44 v ps) ∧ Below w.heap.size w W) ?hI ⟨⟨_, [], bO, rfl, RunsAt.nil _ _ _⟩, hB0⟩
    (fun x => { tmps := #[.pointer q, undef, .slice none 0 0, .pointer (some ⟨w.heap.size, 0, none⟩), .int .u16 (x.a : Nat), .int .u8 x.v, undef, undef, .pointer q, .func (.func 25) #[.pointer q] #[], .int .u16 (x.a : Nat), .int .u8 x.v, undef, undef, undef, undef, undef, undef, undef, undef, undef, undef, undef, undef, undef, undef, undef, undef, undef, undef, undef, undef, undef, undef, undef, undef, undef, undef, undef, undef, undef, undef, undef, undef, undef, undef, undef], defers := [] }) ?assign ?body ?done
  case hI => exact OwnFrom.and (Own.from (runs_own w.heap.size) _) (ownFrom_below (Nat.le_refl _) (by simp))
  case assign =>
    intro l x W K hK
    gi_wp2
    exact hK
  case body =>
    rintro l pre x W ⟨⟨v, ps, hv, hps, hR⟩, hB⟩ hlt
    have hc := hv.cell
    have hf := hv.frozen
    have hle : ps.length ≤ pre.length := by have := (runsRev_le pre).1; rw [← hps] at this; simpa using this
    have hxa := x.h
    cases ps with
    | nil =>
      obtain ⟨sa, cap, rfl⟩ := own_slice hR.row
      gi_wp2_with (first | (refine ⟨trivial, ?_⟩) | (gi_at_builtin; refine wpListIn_append_at _ rfl (.tmp 26) (.tmp 29) 38 rfl w.heap.size 44 i44 (.agg #[.int .u16 0, .slice none 0 0]) 2 32 Tryd.underlying38 p1 p2 p3 p4 rfl (by decide) _ _ _ rfl (hR.row.alloc _) ⟨W.heap.size, 0, none⟩ 1 1 [.int .u16 (x.a : Nat), .slice none 0 0] rfl rfl (two_new _ _ _ _) (by simp [Value.oneCell']) (by simp only [maxLen]; omega) (by omega) (by have := hB.size; simp; omega) ?_; intro v1 w1 hown1 hgrow1 _; obtain ⟨g1, cap1, rfl, hb1, hv1, hR1, hk1, hB1⟩ := run_added (B := w.heap.size) hv hR hB.size (Nat.le_refl _) hown1 hgrow1; have hc1 := hb1.cell; have hf1 := hb1.frozen; have hc2 := hv1.cell; obtain ⟨hl1, hl2, hl3⟩ := row_last hR1.row; simp only [List.length_nil, Nat.zero_mul, Nat.zero_add] at hl1 hl2 hl3; have hbr1 := hR1.bytes _ (List.mem_cons_self ..); simp only [List.length_nil, List.map_nil] at hbr1; clear hown1 hgrow1) | (gi_at_builtin; refine wpListIn_append_at _ rfl (.tmp 40) (.tmp 42) 42 rfl w.heap.size 5 i5 (.int .u8 0) 1 1 Tryd.underlying42 q1 q2 q3 q4 rfl (by decide) _ _ _ rfl (hbr1.alloc _) ⟨_, 0, none⟩ 1 1 [.int .u8 x.v] rfl rfl (one_at (by simp) _ _) (by simp [Value.oneCell']) (by simp only [maxLen]; omega) (by omega) (by have h1 := hB.size; have h2 := hB1.size; simp at h2 ⊢; omega) ?_; intro v2 w2 hown2 hgrow2 hat2; obtain ⟨g2, cap2, rfl, hs1, hs2, hv3, hR3, hk3, hB3⟩ := run_longer (B := w.heap.size) hv1 hR1 (by have h1 := hB.size; have h2 := hB1.size; omega) hown2 hgrow2 hat2; simp only [List.length_nil, Nat.zero_mul, Nat.zero_add] at hs1 hs2 hv3 hR3 hk3 hB3; clear hown2 hgrow2))
      exact ⟨(hk1.from _).trans (hk3.from _), hB1.trans hB3, ⟨_, hv3, _, by rw [runsRev_snoc, ← hps]; rfl, hR3⟩, hB.trans (hB1.trans hB3)⟩
    | cons y t =>
      obtain ⟨r, vb⟩ := y
      obtain ⟨g, cap, rfl⟩ := ownsRow_succ hR.row
      have hby := hR.bytes _ (List.mem_cons_self ..)
      obtain ⟨sb, capb, hvb⟩ := own_slice hby
      simp only at hvb
      subst hvb
      obtain ⟨hl1, hl2, hl3⟩ := row_last hR.row
      have hrm : r ∈ runsRev pre := by rw [← hps]; exact List.mem_cons_self ..
      have hrl := (runsRev_le pre).2 r hrm
      have hrp := runsRev_p pre r hrm
      simp only [List.length_cons] at hle
      have hE := ends_any r.p x.a hrp hxa sb r.bs.length capb (by omega) W
      by_cases hxe : r.p + r.bs.length = x.a
      · rw [decide_eq_true hxe] at hE
        gi_wp2_with (first | (refine ⟨trivial, ?_⟩; gi_at_call 27; refine (CallsIn.inRound l (callsIn_wide.2 hE)).mono ?_; rintro e w' ⟨rfl, rfl⟩; have hva := hv.alloc (.cells #[.int .u16 (r.p : Nat), .slice sb r.bs.length capb] 44); have hRa := hR.alloc (.cells #[.int .u16 (r.p : Nat), .slice sb r.bs.length capb] 44); have hca := hva.cell; have hfa := hva.frozen; obtain ⟨ha1, ha2, ha3⟩ := row_last hRa.row; have hbr1 := hRa.bytes _ (List.mem_cons_self ..)) | (gi_at_builtin; refine wpListIn_append_at _ rfl (.tmp 40) (.tmp 42) 42 rfl w.heap.size 5 i5 (.int .u8 0) 1 1 Tryd.underlying42 q1 q2 q3 q4 rfl (by decide) _ _ _ rfl (hbr1.alloc _) ⟨_, 0, none⟩ 1 1 [.int .u8 x.v] rfl rfl (one_at (by simp) _ _) (by simp [Value.oneCell']) (by simp only [maxLen]; omega) (by omega) (by have h1 := hB.size; simp; omega) ?_; intro v2 w2 hown2 hgrow2 hat2; obtain ⟨g2, cap2, rfl, hs1, hs2, hv3, hR3, hk3, hB3⟩ := run_longer (B := w.heap.size) hva hRa (by have h1 := hB.size; simp; omega) hown2 hgrow2 hat2; clear hown2 hgrow2))
        exact ⟨((KeepsOthers.alloc W _).from _).trans (hk3.from _), ((Below.refl _ W).alloc hB.size _).trans hB3, ⟨_, _, hv3, by rw [runsRev_snoc, ← hps]; simp only [List.map_cons, stepR, if_pos hxe], hR3⟩, hB.trans (((Below.refl _ W).alloc hB.size _).trans hB3)⟩
      · rw [decide_eq_false hxe] at hE
        gi_wp2_with (first | (refine ⟨trivial, ?_⟩; gi_at_call 27; refine (CallsIn.inRound l (callsIn_wide.2 hE)).mono ?_; rintro e w' ⟨rfl, rfl⟩; have hva := hv.alloc (.cells #[.int .u16 (r.p : Nat), .slice sb r.bs.length capb] 44); have hRa := hR.alloc (.cells #[.int .u16 (r.p : Nat), .slice sb r.bs.length capb] 44); have hca := hva.cell; have hfa := hva.frozen; have hRar := hRa.row; simp only [List.length_cons] at hRar) | (gi_at_builtin; refine wpListIn_append_at _ rfl (.tmp 26) (.tmp 29) 38 rfl w.heap.size 44 i44 (.agg #[.int .u16 0, .slice none 0 0]) 2 32 Tryd.underlying38 p1 p2 p3 p4 rfl (by decide) _ _ _ rfl (hRar.alloc _) ⟨_, 0, none⟩ 1 1 [.int .u16 (x.a : Nat), .slice none 0 0] rfl rfl (two_at (by simp) _ _ _) (by simp [Value.oneCell']) (by simp only [maxLen]; omega) (by omega) (by have h1 := hB.size; simp; omega) ?_; intro v1 w1 hown1 hgrow1 _; obtain ⟨g1, cap1, rfl, hb1, hv1, hR1, hk1, hB1⟩ := run_added (B := w.heap.size) hva hRa (by have h1 := hB.size; simp; omega) (Nat.le_refl _) hown1 hgrow1; have hc1 := hb1.cell; have hf1 := hb1.frozen; have hc2 := hv1.cell; obtain ⟨hl1, hl2, hl3⟩ := row_last hR1.row; simp only [List.length_cons] at hl1 hl2 hl3 hv1 hR1 hk1 hB1 hc2; have hbr1 := hR1.bytes _ (List.mem_cons_self ..); simp only [List.length_nil, List.map_nil] at hbr1; clear hown1 hgrow1) | (gi_at_builtin; refine wpListIn_append_at _ rfl (.tmp 40) (.tmp 42) 42 rfl w.heap.size 5 i5 (.int .u8 0) 1 1 Tryd.underlying42 q1 q2 q3 q4 rfl (by decide) _ _ _ rfl (hbr1.alloc _) ⟨_, 0, none⟩ 1 1 [.int .u8 x.v] rfl rfl (one_at (by simp) _ _) (by simp [Value.oneCell']) (by simp only [maxLen]; omega) (by omega) (by have h1 := hB.size; have h2 := hB1.size; simp at h2 ⊢; omega) ?_; intro v2 w2 hown2 hgrow2 hat2; obtain ⟨g2, cap2, rfl, hs1, hs2, hv3, hR3, hk3, hB3⟩ := run_longer (B := w.heap.size) (t := (r, .slice sb r.bs.length capb) :: t) (r := ⟨x.a, []⟩) hv1 hR1 (Nat.le_trans hB.size (Nat.le_trans (by simp) hB1.size)) hown2 hgrow2 hat2; simp only [List.length_cons] at hs1 hs2 hv3 hR3 hk3 hB3; clear hown2 hgrow2))
        exact ⟨((KeepsOthers.alloc W _).from _).trans ((hk1.from _).trans (hk3.from _)), ((Below.refl _ W).alloc hB.size _).trans (hB1.trans hB3), ⟨_, hv3, _, by rw [runsRev_snoc, ← hps]; simp only [List.map_cons, stepR, if_neg hxe]; rfl, hR3⟩, hB.trans (((Below.refl _ W).alloc hB.size _).trans (hB1.trans hB3))⟩
  case done =>
    rintro D W hD ⟨⟨v, ps, hv, hps, hR⟩, hB⟩ hK
    have hc := hv.cell
    gi_wp2
    refine ⟨by simp, .inl ⟨_, _, rfl, run_takeDeferred hK, ?_⟩⟩
    exact ⟨_, results_tmp rfl _ _ _, v, ps, rfl, hps, hR.kept (grownBy_putObj' W D _) (fun r e => by cases e; exact ⟨_, hK, fun c e1 => (by cases e1), fun c e1 => (by cases e1)⟩),
      hB.trans (belowK_b (w := w) (Nat.le_refl _) W D _ _ (by simp at hD; omega) hK rfl rfl)⟩
theorem runs_any (q : Option Addr) (xs : List Ent) (w : World) (hH : Holds w q xs) :
    Calls Tryd.prog 16 #[.pointer q] w fun e W' => ∃ v ps, e = .returned v ∧ ps.map (·.1) = runsRev xs ∧ RunsAt W' w.heap.size 44 v ps ∧ Below w.heap.size w W' := callsIn_wide.1 (runs_in q xs w hH)
end Go.Proofs.YtjodidkjpdjmoaaDoor
