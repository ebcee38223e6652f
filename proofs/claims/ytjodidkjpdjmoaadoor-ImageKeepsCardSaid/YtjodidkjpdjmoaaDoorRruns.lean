/- The document's Runs. -/
import Derived.Test.YtjodidkjpdjmoaaDoorRisesWalk
import Derived.Deep.AppendLies
import Derived.Deep.RegionHeld3
import Derived.Deep.RegionLaw
import Derived.BigQuiet
namespace Go.Proofs.YtjodidkjpdjmoaaDoor
open Go.RowKit

theorem info45 : (Tryd.prog.info? 45).map (fun i => (i.zero, i.size, i.bytes)) = some (some (.agg #[.int .u16 0, .slice none 0 0]), 2, 32) := by kernel_rfl
theorem runsRev_nil_iff {l : List Ent} (h : runsRev l = []) : l = [] := by
  rcases List.eq_nil_or_concat l with rfl | ⟨l', x, rfl⟩
  · rfl
  · obtain ⟨r, t, h1, _⟩ := runsRev_last l' x
    rw [List.concat_eq_append] at h
    rw [h1] at h
    cases h

theorem own_old {W : World} {B : Nat} {e : TypeId} {s : Nat} {v : Value} {n : Nat} {xs : List Value} (h : W.ownsRow B e s v n xs) {g : Nat} (hg : g < B) : v.ownBlock ≠ some g := by
  rcases h.2 with ⟨rfl, _⟩ | ⟨b, cap, cur, rfl, hb, _⟩
  · intro e; cases e
  · intro e; injection e with e; have e' : b = g := e; omega

theorem cell_two {w : World} {p : Addr} {u : Value} (h : w.cell? p = some u) (q : Nat) (o1 o2 : Obj) : (((w.drewN q).alloc o1).alloc o2).cell? p = some u :=
  keep_below (((below_drewN (Below.refl w.heap.size w) q).alloc (by simp) o1).alloc (by simp) o2) p u h

theorem own_lit {W : World} {B : Nat} (hB : B ≤ W.heap.size) (u : Int) : (W.alloc (.cells #[.int .u8 u] 5)).ownsRow B 5 1 (.slice (some ⟨W.heap.size, 0, none⟩) 1 1) 1 [.int .u8 u] :=
  ⟨rfl, .inr ⟨W.heap.size, 1, #[.int .u8 u], rfl, hB, heap_alloc_new W _, Nat.le_refl _, by decide, rfl, rfl⟩⟩
/-- A run begun behind the others. -/
theorem run_begun {W w1 : World} {B : Nat} {v v' : Value} {ps : List (Run × Value)} {a : Nat} {u : Int} (hR : RunsAt W B 45 v ps) (hB : B ≤ W.heap.size) (q : Nat) (o2 : Obj)
    (hown : w1.ownsRow B 45 2 v' (ps.length + 1) (runCells ps ++ [.int .u16 (a : Nat), .slice (some ⟨W.heap.size, 0, none⟩) 1 1])) (hg : (((W.drewN q).alloc (.cells #[.int .u8 u] 5)).alloc o2).grownBy w1 v.ownBlock) :
    RunsAt w1 B 45 v' ((⟨a, [u]⟩, .slice (some ⟨W.heap.size, 0, none⟩) 1 1) :: ps) ∧ Below B W w1 := by
  have hRd : RunsAt (W.drewN q) B 45 v ps := ⟨hR.row, hR.bytes, hR.apart⟩
  have hA := (hRd.alloc (.cells #[.int .u8 u] 5)).alloc o2
  have hv : (((W.drewN q).alloc (.cells #[.int .u8 u] 5)).alloc o2).ownsRow B 5 1 (.slice (some ⟨W.heap.size, 0, none⟩) 1 1) 1 [.int .u8 u] := (own_lit (W := W.drewN q) hB u).alloc o2
  refine ⟨hA.add (by decide) hown hg (hv.kept hg (own_apart hv hA.row (by decide))) (fun y hy b hb e => ?_), ?_⟩
  · have hb' : W.heap.size = b := by injection hb
    obtain ⟨cur, hcur⟩ := own_tag (hR.bytes y hy) e
    have := (Array.getElem?_eq_some_iff.1 hcur).1
    omega
  · have hb0 : Below B W (((W.drewN q).alloc (.cells #[.int .u8 u] 5)).alloc o2) := (((below_drewN (Below.refl B W) q).alloc (by simpa using hB) _).alloc (by simp; omega) _)
    refine hb0.grown hg (by simp; omega) (fun r e => ?_)
    rcases Nat.lt_or_ge r B with h | h
    · exact (own_old hR.row h e).elim
    · exact h

theorem cell_alloc1 {w : World} {p : Addr} {u : Value} (h : w.cell? p = some u) (q : Nat) (o1 : Obj) : ((w.drewN q).alloc o1).cell? p = some u :=
  keep_below ((below_drewN (Below.refl w.heap.size w) q).alloc (by simp) o1) p u h

set_option maxRecDepth 100000 in
set_option maxHeartbeats 4000000 in
theorem rruns_any (v : Value) (xs : List Ent) (w : World) (hx : xs.length ≤ 65536) (hE : EntsRead w v xs) :
    Calls Tryd.prog 17 #[v] w fun e W' => ∃ v' ps, e = .returned v' ∧ ps.map (·.1) = runsRev xs ∧ RunsAt W' w.heap.size 45 v' ps ∧ Below w.heap.size w W' := by
  obtain ⟨i45, p1, p2, p3, p4⟩ := info_parts info45
  obtain ⟨i5, q1, q2, q3, q4⟩ := info_parts info5
  obtain ⟨gx, sa, c, rfl, hsa, hc⟩ := hE
  have Hc := Hid.mk' hc
  clear hc
  obtain ⟨m, hm⟩ : ∃ m, m = xs.length := ⟨_, rfl⟩
  rw [← hm] at hx hsa ⊢
  have Hm : Hid (m = xs.length) := hm
  clear hm
  go_enter Tryd.func17, Tryd.ntmps17
  go_wp2
  go_loopw [3, 4] (fun s i wr => ∃ (k : Nat) (ps : List (Run × Value)), k ≤ m ∧ i = .int .i64 k ∧ Hid (ps.map (·.1) = runsRev (xs.take k)) ∧ RunsAt wr w.heap.size 45 s ps ∧ Below w.heap.size w wr) (fun _ i _ => m - (intOf i).toNat)
  case atStart => exact ⟨0, [], Nat.zero_le _, rfl, (rfl : [] = runsRev (xs.take 0)), RunsAt.nil _ _ _, Below.refl _ _⟩
  case round =>
    obtain ⟨k, ps, hk, rfl, hps, hR, hB⟩ := hrel
    by_cases hlt : k < m
    · obtain rfl := hsa (by omega)
      have h1 : k < xs.length := by rw [← Hm.out]; exact hlt
      obtain ⟨x, hxk⟩ : ∃ x, xs[k]? = some x := ⟨_, List.getElem?_eq_getElem h1⟩
      obtain ⟨a1, a2⟩ := Hc.out k x hxk
      have a0 := a1
      replace a1 := keep_below hB _ _ a1
      replace a2 := keep_below hB _ _ a2
      have hxk' : Hid (xs[k]? = some x) := hxk
      clear hxk h1
      have hbase : w.heap.size ≤ wr.heap.size := hB.size
      have hpl : ps.length ≤ k := by
        have h3 := (runsRev_le (xs.take k)).1
        have h4 := congrArg List.length hps.out
        rw [List.length_map] at h4
        have h5 := List.length_take_le k xs
        omega
      obtain ⟨sp, cp, rfl⟩ := own_slice hR.row
      have hRd : ∀ q, RunsAt (wr.drewN q) w.heap.size 45 (.slice sp ps.length cp) ps := fun q => ⟨hR.row, hR.bytes, hR.apart⟩
      have hgx : gx < w.heap.size := World.block_lt_of_cell? w _ a0
      have hfar := own_old hR.row hgx
      by_cases hk0 : k = 0
      · subst hk0
        have hd : decide (0 < 0) = false := rfl
        go_wp2
        go_quiet (fail)
        go_wp2
        go_region_held3 (fun w' => w'.cell? ⟨gx, 0 * 2, none⟩ = some (.int .u16 (x.a : Nat)) ∧ w'.cell? ⟨gx, 0 * 2 + 1, none⟩ = some (.int .u8 x.v))
          (first | go_keep | (exact ⟨s1, s2⟩))
          ((refine step_append_lies _ (by rfl) _ _ _ (by rfl) w.heap.size 45 i45 (.agg #[.int .u16 0, .slice none 0 0]) 2 32 Tryd.underlying40 p1 p2 p3 p4 rfl (by decide) (.slice sp ps.length cp) ps.length (runCells ps) (by rfl) (((hRd _).row.alloc _).alloc _)
              ⟨wr.heap.size + 1, 0, none⟩ 1 1 [.int .u16 (x.a : Nat), .slice (some ⟨wr.heap.size, 0, none⟩) 1 1] (by rfl) (by rfl) (two_at (by simp) _ _ _) (by simp [Value.oneCell'])
              (by omega) (by simp only [maxLen]; omega) (by omega) (by simp; omega) (wr.heap.size + 2) (by simp) ?_; intro gg cap w1 hown1 hgrow hat hlt1; have s1 := (hgrow.cell_far ⟨gx, 0 * 2, none⟩ (by simp; omega) (Ne.symm hfar)).trans (cell_two a1 _ _ _); have s2 := (hgrow.cell_far ⟨gx, 0 * 2 + 1, none⟩ (by simp; omega) (Ne.symm hfar)).trans (cell_two a2 _ _ _)))
        obtain ⟨hR1, hB1⟩ := run_begun hR hbase (nq + 1) _ hown1 hgrow
        go_wp2
        go_roundw
        case rel =>
          refine ⟨1, _, by omega, by go_num, ?_, hR1, hB.trans hB1⟩
          show Hid _
          refine Hid.mk' ?_
          rw [List.take_add_one, hxk'.out]
          have e0 := hps.out
          simp only [List.take_zero] at e0
          rw [List.map_cons, e0]
          rfl
        case measure => simp [intOf]; omega
      · obtain ⟨j, rfl⟩ : ∃ j, k = j + 1 := ⟨k - 1, by omega⟩
        have h2 : j < xs.length := by rw [← Hm.out]; omega
        obtain ⟨y, hyk⟩ : ∃ y, xs[j]? = some y := ⟨_, List.getElem?_eq_getElem h2⟩
        obtain ⟨b1, _⟩ := Hc.out j y hyk
        replace b1 := keep_below hB _ _ b1
        have htk : xs.take (j + 1) = xs.take j ++ [y] := by rw [List.take_add_one, hyk]; rfl
        obtain ⟨r, t0, hr1, hr2⟩ := runsRev_last (xs.take j) y
        have hrun : Hid (runsRev (xs.take (j + 1)) = r :: t0) := by show _ = _; rw [htk, hr1]
        clear htk hr1 hyk h2
        obtain ⟨k, hkj⟩ : ∃ k, k = j + 1 := ⟨_, rfl⟩
        have hj : j = k - 1 := by omega
        rw [← hkj] at hps hlt hk a1 a2 a0 hxk' hpl hk0 hrun ⊢
        subst hj
        clear hkj
        have hym : y.a < 65536 := y.h
        have hxm : x.a < 65536 := x.h
        have hd : decide (0 < k) = true := decide_eq_true (by omega)
        go_wp2
        go_quiet (fail)
        go_wp2
        · rename_i hq
          have hxy : y.a + 1 = x.a := by have := eq_of_beq hq; omega
          clear hq
          obtain ⟨⟨r', vb⟩, t, rfl, hrr, htt⟩ := List.map_eq_cons_iff.1 (hps.out.trans hrun.out)
          simp only at hrr
          subst hrr
          obtain ⟨g, cap1, hsp⟩ := ownsRow_succ hR.row
          cases hsp
          obtain ⟨l1, l2, l3⟩ := row_last hR.row
          have hby := hR.bytes _ (List.mem_cons_self ..)
          obtain ⟨sb, capb, hvb⟩ := own_slice hby
          simp only at hvb
          subst hvb
          have hrl : r'.bs.length ≤ 65536 := by
            have h6 := (runsRev_le (xs.take k)).2 r' (by rw [hrun.out]; exact List.mem_cons_self ..)
            have h5 := List.length_take_le k xs
            omega
          have htl : t.length < 65536 := by simp only [List.length_cons] at hpl; omega
          have z0 : (0 : Int) ≤ (t.length : Int) := by omega
          have z1 : (t.length : Int) < (t.length : Int) + 1 := by omega
          have z2 : IntKind.i64.wrap (t.length : Int) = t.length := by rw [IntKind.wrap_i64]; omega
          have z3 : IntKind.i64.wrap ((t.length : Int) + 1) = (t.length : Int) + 1 := by rw [IntKind.wrap_i64]; omega
          have hgl := (hR.row.lt g rfl).2
          have far1 := own_old hby hgx
          have far2 : (Value.slice sb r'.bs.length capb).ownBlock ≠ some g := by
            rcases own_apart hby hR.row (by decide) with h | h
            · rw [h]; intro e; cases e
            · exact h
          have hgg : gx ≠ g := fun e => own_old hR.row hgx (by rw [e]; rfl)
          have hgg' : g ≠ gx := fun e => hgg e.symm
          have n1 := World.new_ne wr _ a2
          have n2 := World.new_ne wr _ l2
          have l2a := cell_alloc1 l2 (nq + 1) (.cells #[.int .u8 x.v] 5)
          go_region_law
            ((refine step_append_lies _ (by rfl) _ _ _ (by rfl) w.heap.size 5 i5 (.int .u8 0) 1 1 Tryd.underlying42 q1 q2 q3 q4 rfl (by decide) (.slice sb r'.bs.length capb) r'.bs.length (r'.bs.map (Value.int .u8)) (by rfl) ((hRd _).bytes _ (List.mem_cons_self ..) |>.alloc _)
                ⟨wr.heap.size, 0, none⟩ 1 1 [.int .u8 x.v] (by rfl) (by rfl) (one_at (by simp) _ _) (by simp [Value.oneCell'])
                (by omega) (by simp only [maxLen]; omega) (by omega) (by simp; omega) (wr.heap.size + 1) (by simp) ?_; intro gg cap w1 hown1 hgrow hat hlt1; have s1 := (hgrow.cell_far ⟨gx, k * 2 + 1, none⟩ (by simp; omega) (Ne.symm far1)).trans (cell_alloc1 a2 _ _); have s2 := (hgrow.cell_far ⟨g, t.length * 2 + 1, none⟩ (by simp; omega) (Ne.symm far2)).trans (cell_alloc1 l2 _ _); have s3 : w1.frozen? ⟨g, t.length * 2 + 1, none⟩ = false := (hgrow.frozen_far ⟨g, t.length * 2 + 1, none⟩ (by simp; omega) (Ne.symm far2)).trans (((((hRd _).alloc _).row).frozenAt _))))
          all_goals
            have hL := ((hRd (nq + 1)).alloc _).longer (by decide) hown1 hgrow (hat.elim (fun h => .inl h.symm) (fun h => .inr ⟨gg, rfl, by simp; omega⟩))
            rw [Nat.mul_comm 2 t.length] at hL
            have hB1 : Below w.heap.size wr (w1.setCell ⟨g, t.length * 2 + 1, none⟩ (.slice (some ⟨gg, 0, none⟩) (r'.bs.length + 1) cap)) :=
              ((((below_drewN (Below.refl _ wr) (nq + 1)).alloc hbase _).grown hgrow (by simp; omega) fun j ej => (hby.lt j ej).1).setCell (p := ⟨g, t.length * 2 + 1, none⟩) (hR.row.lt g rfl).1 _)
            go_wp2
            go_roundw
            case rel =>
              refine ⟨k + 1, _, by omega, by go_num, ?_, hL, hB.trans hB1⟩
              show Hid _
              refine Hid.mk' ?_
              rw [List.take_add_one, hxk'.out]
              show _ = runsRev (xs.take k ++ [x])
              rw [runsRev_snoc, List.map_cons, hrun.out]
              show _ = if r'.p + r'.bs.length = x.a then _ else _
              rw [if_pos (by omega), htt]
            case measure => simp [intOf]; omega
        · rename_i hq
          have hxy : ¬ y.a + 1 = x.a := by have := ne_of_beq_false hq; omega
          clear hq
          go_region_held3 (fun w' => w'.cell? ⟨gx, k * 2, none⟩ = some (.int .u16 (x.a : Nat)) ∧ w'.cell? ⟨gx, k * 2 + 1, none⟩ = some (.int .u8 x.v))
            (first | go_keep | (exact ⟨s1, s2⟩))
            ((refine step_append_lies _ (by rfl) _ _ _ (by rfl) w.heap.size 45 i45 (.agg #[.int .u16 0, .slice none 0 0]) 2 32 Tryd.underlying40 p1 p2 p3 p4 rfl (by decide) (.slice sp ps.length cp) ps.length (runCells ps) (by rfl) (((hRd _).row.alloc _).alloc _)
                ⟨wr.heap.size + 1, 0, none⟩ 1 1 [.int .u16 (x.a : Nat), .slice (some ⟨wr.heap.size, 0, none⟩) 1 1] (by rfl) (by rfl) (two_at (by simp) _ _ _) (by simp [Value.oneCell'])
                (by omega) (by simp only [maxLen]; omega) (by omega) (by simp; omega) (wr.heap.size + 2) (by simp) ?_; intro gg cap w1 hown1 hgrow hat hlt1; have s1 := (hgrow.cell_far ⟨gx, k * 2, none⟩ (by simp; omega) (Ne.symm hfar)).trans (cell_two a1 _ _ _); have s2 := (hgrow.cell_far ⟨gx, k * 2 + 1, none⟩ (by simp; omega) (Ne.symm hfar)).trans (cell_two a2 _ _ _)))
          obtain ⟨hR1, hB1⟩ := run_begun hR hbase (nq + 1) _ hown1 hgrow
          go_wp2
          go_roundw
          case rel =>
            refine ⟨k + 1, _, by omega, by go_num, ?_, hR1, hB.trans hB1⟩
            show Hid _
            refine Hid.mk' ?_
            rw [List.take_add_one, hxk'.out]
            show _ = runsRev (xs.take k ++ [x])
            rw [runsRev_snoc, List.map_cons, hps.out, hrun.out]
            show _ = if r.p + r.bs.length = x.a then _ else _
            rw [if_neg (by omega)]
          case measure => simp [intOf]; omega
    · obtain rfl : k = m := by omega
      go_wp2
      go_ret
      refine ⟨_, ps, rfl, ?_, hR, hB⟩
      rw [hps.out, Hm.out, List.take_length]
end Go.Proofs.YtjodidkjpdjmoaaDoor
