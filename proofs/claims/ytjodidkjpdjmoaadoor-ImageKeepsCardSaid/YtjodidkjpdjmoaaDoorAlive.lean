/- What New and Put do, in the forms in which they are called; and that the chapter's example comes out. -/
import Derived.Test.YtjodidkjpdjmoaaDoorRuns
namespace Go.Proofs.YtjodidkjpdjmoaaDoor
open Go.RowKit

theorem Img.alloc {W : World} {b : Nat} {g : Nat → Option Int} {M : Nat → Nat} (h : Img W b g M) (o : Obj) : Img (W.alloc o) b g M :=
  h.below (n₀ := W.heap.size) (World.block_lt_of_cell? W _ (h.vals 0 (by omega))) ((Below.refl _ W).alloc (Nat.le_refl _) o)
theorem Img.lt {W : World} {b : Nat} {g : Nat → Option Int} {M : Nat → Nat} (h : Img W b g M) : b < W.heap.size := World.block_lt_of_cell? W ⟨b, 1024 + 0, none⟩ (h.vals 0 (by omega))
theorem img_new (w : World) : Img (w.alloc (.cells bigZ.toArray 63)) w.heap.size (fun _ => none) (fun _ => 0) := by
  have hc : ∀ o, (w.alloc (.cells bigZ.toArray 63)).cell? ⟨w.heap.size, o, none⟩ = bigZ[o]? := fun o => by
    rw [cell_of_row _ _ o _ 63 (0, 0) (heap_alloc_new w _)]; simp
  refine ⟨⟨fun k hk => ?_, fun o => frozen_of_row _ _ o _ 63 (heap_alloc_new w _), fun k _ i => by simp⟩, fun a ha => ?_⟩
  · rw [hc, bigZ_is.2 k (by omega)]
    simp [zeroAt, hk]
  · rw [hc, bigZ_is.2 (1024 + a) (by omega)]
    simp [zeroAt]

theorem put_ok {b n a : Nat} (ha : a + n ≤ 65536) {g : Nat → Option Int} {M : Nat → Nat} {v : Value} {z : Nat → Int} {w : World} (hI : Img w b g M) (hB : Bs w v n z) (hf : ∀ k, k < n → g (a + k) = none) :
    Calls Tryd.prog 22 #[.pointer (some ⟨b, 0, none⟩), .int .i64 (a : Nat), v] w fun e w' => e = .returned (.int .i64 0) ∧ w.grownBy w' (some b) ∧ ∃ M', Img w' b (putG g a n z) M' := by
  have hk : fitK (fun x => (g x).isSome) (a : Int) n = 0 := fitK_free ha (fun k h => by rw [hf k h]; rfl)
  refine (put_any b n a (by omega) (by omega) (by omega) g M v z w hI hB).mono ?_
  rintro e w' ⟨rfl, h1, M', h2⟩
  rw [if_pos hk, Int.toNat_natCast] at h2
  exact ⟨by rw [hk], h1, M', h2⟩
theorem put_lap {b n a k : Nat} (ha : a + n ≤ 65536) {g : Nat → Option Int} {M : Nat → Nat} {v : Value} {z : Nat → Int} {w : World} (hI : Img w b g M) (hB : Bs w v n z) (hk : k < n) (hg : (g (a + k)).isSome = true) :
    Calls Tryd.prog 22 #[.pointer (some ⟨b, 0, none⟩), .int .i64 (a : Nat), v] w fun e w' => e = .returned (.int .i64 6) ∧ w.grownBy w' (some b) ∧ ∃ M', Img w' b g M' := by
  have hk : fitK (fun x => (g x).isSome) (a : Int) n = 6 := fitK_lap ha hk hg
  refine (put_any b n a (by omega) (by omega) (by omega) g M v z w hI hB).mono ?_
  rintro e w' ⟨rfl, h1, M', h2⟩
  rw [if_neg (by rw [hk]; decide)] at h2
  exact ⟨by rw [hk], h1, M', h2⟩

def g1 : Nat → Option Int := putG (fun _ => none) 5 2 (fun j => if j = 0 then 1 else 2)
def g2 : Nat → Option Int := putG g1 7 1 (fun _ => 3)
theorem lst_g2 : lst g2 = [⟨5, 1, by omega⟩, ⟨6, 2, by omega⟩, ⟨7, 3, by omega⟩] := by
  have h1 : seg g1 0 7 = [⟨5, 1, by omega⟩, ⟨6, 2, by omega⟩] := by
    have e : seg g1 0 (5 + 2) = seg g1 0 5 ++ seg g1 (0 + 5) 2 := seg_add _ _ _ _
    have e1 : seg g1 0 5 = [] := seg_none (fun a _ h => by unfold g1 putG; rw [if_neg (by omega)])
    rw [e1, List.nil_append] at e
    rw [e, seg_succ, seg_succ, seg_zero]
    simp [entAt, g1, putG]
  have h2 : seg g1 8 65528 = [] := seg_none (fun a h _ => by unfold g1 putG; rw [if_neg (by omega)])
  unfold g2
  rw [lst_putG _ _ _ _ (by omega), h1, show 7 + 1 = 8 by rfl, show 65536 - 8 = 65528 by rfl, h2, news_succ 7 0 _ (by omega), news_zero]
  rfl
theorem runs_g2 : runsRev (lst g2) = [⟨5, [1, 2, 3]⟩] := by
  rw [lst_g2]; rfl

/-- The slice of a new block of bytes. -/
theorem bs_at {w : World} {k : Nat} (hk : k = w.heap.size) (c : Array Value) (n : Nat) (z : Nat → Int) (h : ∀ j, j < n → c[j]? = some (.int .u8 (z j))) : Bs (w.alloc (.cells c 5)) (.slice (some ⟨k, 0, none⟩) n n) n z := by
  subst hk
  exact ⟨_, _, _, _, rfl, fun _ => rfl, fun j hj => by rw [cell_of_row _ _ _ _ 5 (0, 0) (heap_alloc_new w _), Nat.zero_add]; exact h j hj⟩

theorem one_run {W : World} {B : Nat} {v : Value} {ps : List (Run × Value)} {r : Run} (h : ps.map (·.1) = [r]) (hR : RunsAt W B 44 v ps) :
    ∃ g cap sb capb, v = .slice (some ⟨g, 0, none⟩) 1 cap ∧ W.cell? ⟨g, 0, none⟩ = some (.int .u16 (r.p : Nat)) ∧ W.cell? ⟨g, 1, none⟩ = some (.slice sb r.bs.length capb) := by
  match ps, h with
  | [(r', vb)], h =>
    simp at h
    subst h
    obtain ⟨g, cap, rfl⟩ := ownsRow_succ hR.row
    obtain ⟨sb, capb, hvb⟩ := own_slice (hR.bytes _ (List.mem_cons_self ..))
    simp only at hvb
    subst hvb
    obtain ⟨h1, h2, _⟩ := row_last hR.row
    exact ⟨g, cap, sb, capb, rfl, h1, h2⟩

theorem new_img (w : World) : Calls Tryd.prog 21 #[] w fun e W => e = .returned (.pointer (some ⟨w.heap.size, 0, none⟩)) ∧ Img W w.heap.size (fun _ => none) (fun _ => 0) ∧ Below w.heap.size w W :=
  (new_any w).mono fun e W ⟨h1, h2⟩ => ⟨h1, by rw [h2]; exact img_new w, by rw [h2]; exact (Below.refl _ w).alloc (Nat.le_refl _) _⟩

set_option maxHeartbeats 1000000 in
theorem alive_any (w : World) (hT : Tab w) (h0 : 0 < w.heap.size) : Calls Tryd.prog 9 #[] w fun e w' => e = .returned (.bool true) ∧ Below w.heap.size w w' := by
  go_enter Tryd.func9, Tryd.ntmps9
  go_wp2_with (go_at_call 21; refine (new_img _).mono ?_; rintro e W0 ⟨rfl, hI0, hB0⟩)
  refine (put_ok (a := 5) (n := 2) (by omega) (hI0.alloc _) (bs_at rfl _ 2 (fun j => if j = 0 then 1 else 2) (fun j hj => by match j, hj with | 0, _ => rfl | 1, _ => rfl)) (fun _ _ => rfl)).mono ?_
  rintro e W1 ⟨rfl, hg1, M1, hI1⟩
  have hB1 : Below w.heap.size w W1 := (hB0.alloc hB0.size _).grown hg1 (by have := hB0.size; simp; omega) (fun k e => by cases e; exact Nat.le_refl _)
  clear hI0 hg1
  go_wp2_with fail
  refine (put_ok (a := 7) (n := 1) (by omega) (hI1.alloc _) (bs_at rfl _ 1 (fun _ => 3) (fun j hj => by match j, hj with | 0, _ => rfl)) (fun k hk => by unfold putG; rw [if_neg (by omega)])).mono ?_
  rintro e W2 ⟨rfl, hg2, M2, hI2⟩
  have hB2 : Below w.heap.size w W2 := (hB1.alloc hB1.size _).grown hg2 (by have := hB1.size; simp; omega) (fun k e => by cases e; exact Nat.le_refl _)
  clear hI1 hg2
  go_wp2_with fail
  refine (put_lap (a := 6) (n := 1) (k := 0) (by omega) (hI2.alloc _) (bs_at rfl _ 1 (fun _ => 9) (fun j hj => by match j, hj with | 0, _ => rfl)) (by omega) (by rfl)).mono ?_
  rintro e W3 ⟨rfl, hg3, M3, hI3⟩
  have hB3 : Below w.heap.size w W3 := (hB2.alloc hB2.size _).grown hg3 (by have := hB2.size; simp; omega) (fun k e => by cases e; exact Nat.le_refl _)
  clear hI2 hg3
  go_wp2_with fail
  refine (runs_any _ (lst g2) _ (.inr ⟨w.heap.size, g2, M3, rfl, rfl, hI3, hT.below h0 hB3, hI3.lt⟩)).mono ?_
  rintro e W4 ⟨v, ps, rfl, hps, hR, hB4⟩
  rw [runs_g2] at hps
  obtain ⟨g, cap, sb, capb, rfl, hc1, hc2⟩ := one_run hps hR
  simp only [List.length_cons, List.length_nil, Nat.zero_add, Nat.reduceAdd] at hc1 hc2
  clear hI3 hps hR
  go_wp2
  go_ret
  exact ⟨rfl, hB3.trans (hB4.mono hB3.size)⟩
end Go.Proofs.YtjodidkjpdjmoaaDoor
