/- What bytes.Repeat does with one byte, when it is called for more than 8192 and at most 65536 bytes: a new row of that byte. -/
import Derived.Test.YtjodidkjpdjmoaaDoorPlay
import Derived.Lib.MakeNoZero
import Derived.Laws.CopyOwn
import Derived.Deep.RegionLaw
import Derived.Lib.Hide
namespace Go.Proofs.YtjodidkjpdjmoaaDoor
open Go.RowKit

theorem and32 (x : Nat) (h : x < 4294967296) : bits BinOp.and IntKind.u64 (x : Int) 4294967295 = (x : Int) := by
  have := bits_and_u64_nat x 4294967295 (by omega) (by omega)
  rw [Nat.and_two_pow_sub_one_eq_mod x 32, Nat.mod_eq_of_lt (by omega)] at this
  exact this
theorem mul64_any (N : Nat) (hN : N ≤ 65536) (w : World) : Calls Tryd.prog 35 #[.int .u64 1, .int .u64 N] w fun e w' => e = .returned (.tuple #[.int .u64 0, .int .u64 N]) ∧ w = w' := by
  have a1 : bits BinOp.and IntKind.u64 1 4294967295 = 1 := and32 1 (by omega)
  have a2 := and32 N (by omega)
  have a3 : bits BinOp.and IntKind.u64 0 4294967295 = 0 := and32 0 (by omega)
  have a4 : (N : Int) / 4294967296 = 0 := by omega
  go_enter Tryd.func35, Tryd.ntmps35
  go_wp2
  go_ret2
  exact ⟨rfl, rfl⟩
theorem mul_any (N : Nat) (hN : N ≤ 65536) (w : World) : Calls Tryd.prog 32 #[.int .u64 1, .int .u64 N] w fun e w' => e = .returned (.tuple #[.int .u64 0, .int .u64 N]) ∧ w = w' := by
  go_enter Tryd.func32, Tryd.ntmps32
  go_wp2_with (go_at_call 35; refine (mul64_any N hN _).mono ?_; rintro e w' ⟨rfl, rfl⟩)
  go_ret2
  exact ⟨rfl, rfl⟩
theorem splice_take (cur : List Value) (p k : Nat) (V : Value) (h : cur.take p = List.replicate p V) (hp : p ≤ cur.length) : (splice cur p (List.replicate k V)).take (p + k) = List.replicate (p + k) V := by
  have hl : (cur.take p).length = p := by rw [List.length_take]; omega
  have h2 : (cur.take p ++ List.replicate k V).length = p + k := by rw [List.length_append, hl, List.length_replicate]
  unfold splice
  rw [← List.append_assoc, List.take_append_of_le_length (by omega), List.take_of_length_le (by omega), h, List.replicate_append_replicate]
theorem splice_len (cur : List Value) (p : Nat) (cs : List Value) (h : p + cs.length ≤ cur.length) : (splice cur p cs).length = cur.length := by
  unfold splice
  simp
  omega
theorem cell_of_row {W : World} {B : Nat} {cur : List Value} (h : W.heap[B]? = some (.cells cur.toArray 5 (0, 0))) (j : Nat) (u : Value) (hj : cur[j]? = some u) : W.cell? ⟨B, j, none⟩ = some u := by
  simp [World.cell?, h, hj]
theorem free_of_row {W : World} {B : Nat} {cur : List Value} (h : W.heap[B]? = some (.cells cur.toArray 5 (0, 0))) (j : Nat) : W.frozen? ⟨B, j, none⟩ = false := by
  simp [World.frozen?, h]
theorem add_at (b o j : Nat) : (⟨b, o, none⟩ : Addr).add j = ⟨b, o + j, none⟩ := by unfold Addr.add; split <;> simp_all
theorem rep_src {w : World} {sb so k : Nat} {v : Int} (h : ∀ j, j < k → w.cell? ⟨sb, so + j, none⟩ = some (.int .u8 v)) : ∀ j u, (List.replicate k (Value.int .u8 v))[j]? = some u → w.cell? ((⟨sb, so, none⟩ : Addr).add j) = some u := fun j u hj => by
  rw [List.getElem?_replicate] at hj
  split at hj
  · rename_i hlt
    cases hj
    rw [add_at]
    exact h j hlt
  · cases hj
theorem rep_one (k : Nat) (v : Int) : ∀ u ∈ List.replicate k (Value.int .u8 v), u.oneCell' = true := fun u hu => by
  rw [List.mem_replicate] at hu
  rw [hu.2]
  rfl
/-- a copy of one byte, k times, into a row of the call's own -/
theorem wpList_copy_rep {w : World} {ops : Array Oper} {rest : List Oper} {o : Oper} {a : Act} {Q : Exit → Act → World → Prop} (hgd : o.guard = none) (d s : Operand)
    (ho : o.op = .call { callee := .builtin .copy, args := #[d, s], argTypes := #[42, 42] })
    (g off dLen dCap sb so sLen sCap : Nat) (hd : a.eval d = .slice (some ⟨g, off, none⟩) dLen dCap) (hs : a.eval s = .slice (some ⟨sb, so, none⟩) sLen sCap)
    (cur : List Value) (hg : Hid (w.heap[g]? = some (.cells cur.toArray 5 (0, 0)))) (k : Nat) (v : Int) (hk : Hid (k = min sLen dLen)) (hsrc : Hid (∀ j, j < k → w.cell? ⟨sb, so + j, none⟩ = some (.int .u8 v)))
    (hfit : Hid (off + k ≤ cur.length)) (B : Nat) (w0 : World) (hb : Below B w0 w) (hBg : B ≤ g)
    (h : ∀ w', Hid (w'.heap[g]? = some (.cells (splice cur off (List.replicate k (.int .u8 v))).toArray 5 (0, 0))) → Below B w0 w' → wpList Tryd.prog ops Q rest (a.put o.dst (.int .i64 k)) w') :
    wpList Tryd.prog ops Q (o :: rest) a w :=
  wpList_copy_splice hgd d s 42 42 ho 5 Tryd.underlying42 size5 _ _ _ _ _ _ hd hs g off cur 5 hg.out (List.replicate k (.int .u8 v)) (by rw [List.length_replicate]; exact hk.out) (fun _ => ⟨rfl, _, rfl, rep_src hsrc.out⟩)
    (by rw [List.length_replicate]; exact hfit.out) (rep_one k v) B w0 hb hBg (fun w' h1 h2 => by have := h w' h1 h2; rw [List.length_replicate]; exact this)
theorem step_copy_rep {ops : Array Oper} {o : Oper} {a : Act} {w : World} {K : Act → World → Prop} {Q : Exit → Act → World → Prop} {E : Prop} (hgd : o.guard = none) (d s : Operand)
    (ho : o.op = .call { callee := .builtin .copy, args := #[d, s], argTypes := #[42, 42] })
    (g off dLen dCap sb so sLen sCap : Nat) (hd : a.eval d = .slice (some ⟨g, off, none⟩) dLen dCap) (hs : a.eval s = .slice (some ⟨sb, so, none⟩) sLen sCap)
    (cur : List Value) (hg : Hid (w.heap[g]? = some (.cells cur.toArray 5 (0, 0)))) (k : Nat) (v : Int) (hk : Hid (k = min sLen dLen)) (hsrc : Hid (∀ j, j < k → w.cell? ⟨sb, so + j, none⟩ = some (.int .u8 v)))
    (hfit : Hid (off + k ≤ cur.length)) (B : Nat) (w0 : World) (hb : Below B w0 w) (hBg : B ≤ g)
    (h : ∀ w', Hid (w'.heap[g]? = some (.cells (splice cur off (List.replicate k (.int .u8 v))).toArray 5 (0, 0))) → Below B w0 w' → K (a.put o.dst (.int .i64 k)) w') :
    if Region.wanted o (yielded ops a.tmps) = true then Oper.wp Tryd.prog o a w K Q else E :=
  step_copy_splice hgd d s 42 42 ho 5 Tryd.underlying42 size5 _ _ _ _ _ _ hd hs g off cur 5 hg.out (List.replicate k (.int .u8 v)) (by rw [List.length_replicate]; exact hk.out) (fun _ => ⟨rfl, _, rfl, rep_src hsrc.out⟩)
    (by rw [List.length_replicate]; exact hfit.out) (rep_one k v) B w0 hb hBg (fun w' h1 h2 => by have := h w' h1 h2; rw [List.length_replicate]; exact this)
theorem cell_drew (W : World) (a : Addr) : W.drew.cell? a = W.cell? a := by simp
theorem under42' : Tryd.prog.underlying 42 = some (.slice (Tryd.prog.elem 42)) := by kernel_rfl
theorem elem42 : Tryd.prog.elem 42 = 5 := by kernel_rfl
theorem slice42_from (W : World) (b len cap p : Nat) (h1 : p ≤ len) (h2 : p < cap) : (Instr.slice 42 (.slice (some ⟨b, 0, none⟩) len cap) (some (.int .i64 p)) none none).run Tryd.prog W = .ok (.slice (some ⟨b, p, none⟩) (len - p) (cap - p)) W := by
  have e : ¬ cap = p := by omega
  rw [run_slice_l (P := Tryd.prog) (w := W) (ht := under42') (h0 := by omega) (h1 := by omega), elem42, Tryd.sizeOf5]
  simp [Result.andThen, sliced, e, add_at]
theorem slice42_to (W : World) (b len cap c : Nat) (h2 : c ≤ cap) : (Instr.slice 42 (.slice (some ⟨b, 0, none⟩) len cap) none (some (.int .i64 c)) none).run Tryd.prog W = .ok (.slice (some ⟨b, 0, none⟩) c cap) W := by
  rw [run_slice_h (P := Tryd.prog) (w := W) (ht := under42') (h0 := by omega) (h2 := by omega), elem42, Tryd.sizeOf5]
  simp [Result.andThen, sliced]
  intro _
  rw [add_at]
set_option maxRecDepth 100000 in
set_option maxHeartbeats 2000000 in
theorem repeat_any (N : Nat) (h1 : 8192 < N) (h2 : N ≤ 65536) (bb : Nat) (v : Int) (w : World) (hb : w.cell? ⟨bb, 0, none⟩ = some (.int .u8 v)) :
    Calls Tryd.prog 28 #[.slice (some ⟨bb, 0, none⟩) 1 1, .int .i64 N] w fun e w' => e = .returned (.slice (some ⟨w.heap.size, 0, none⟩) N N) ∧
      ∃ cur : List Value, w'.heap[w.heap.size]? = some (.cells cur.toArray 5 (0, 0)) ∧ N ≤ cur.length ∧ cur.take N = List.replicate N (.int .u8 v) ∧ Below w.heap.size w w' := by
  obtain ⟨cs, hrun, hle, hmax⟩ := Lib.run_makeNoZero (P := Tryd.prog) w #[3] 42 5 Tryd.underlying42 N (by omega)
  have hcall : (callFunc 33 #[.int .i64 N]).run Tryd.prog w = .ok (.value (.slice (some ⟨w.heap.size, 0, none⟩) N cs.size)) (w.drew.drew.alloc (.cells cs 5)) := by
    rw [run_callFunc_extern Tryd.func33 (by kernel_rfl) (by kernel_rfl) (by kernel_rfl) (e := Extern.BytealgMakeNoZero.makeNoZero #[3] #[42]) (by kernel_rfl), hrun]
    rfl
  have hcm := hmax (by unfold maxLen; omega)
  have hblt : bb < w.heap.size := World.block_lt_of_cell? _ _ hb
  have hm := mul_any N h2
  clear hrun hmax
  go_enter Tryd.func28, Tryd.ntmps28
  have hcs : cs.toList.toArray = cs := by simp
  have hg0 : (w.alloc (.cells cs 5)).drew.drew.heap[w.heap.size]? = some (.cells cs.toList.toArray 5 (0, 0)) := by
    rw [hcs]
    show (w.alloc (.cells cs 5)).heap[w.heap.size]? = _
    exact heap_alloc_new w _
  have hb1 : ∀ j, j < 1 → (w.alloc (.cells cs 5)).drew.drew.cell? ⟨bb, 0 + j, none⟩ = some (.int .u8 v) := fun j hj => by
    obtain rfl : j = 0 := by omega
    exact keep_below ((Below.refl w.heap.size w).alloc (Nat.le_refl _) _) _ _ hb
  have hbel : Below w.heap.size w (w.alloc (.cells cs 5)).drew.drew := (((Below.refl _ _).alloc (Nat.le_refl _) _).drew).drew
  have Hg0 := Lib.hid hg0
  have Hb1 := Lib.hid hb1
  have Hle := Lib.hid hle
  have C1 := Lib.hid (show 1 = min 1 N by omega)
  have C3 := Lib.hid (show 0 + 1 ≤ cs.toList.length by simp; omega)
  clear hg0 hb1 hcs
  go_wp2_with (first
    | (go_at_call 32; refine (hm _).mono ?_; rintro e w' ⟨rfl, rfl⟩)
    | (with_reducible refine wpList_copy_rep rfl (.tmp 58) (.tmp 59) rfl w.heap.size 0 N N bb 0 1 1 rfl rfl cs.toList Hg0 1 v C1 Hb1 C3 w.heap.size w hbel (Nat.le_refl _) ?_; intro w2 hg2 hb2))
  have hcur : ∃ cur : List Value, w2.heap[w.heap.size]? = some (.cells cur.toArray 5 (0, 0)) ∧ N ≤ cur.length ∧ cur.take 1 = List.replicate 1 (.int .u8 v) :=
    ⟨_, hg2.out, by rw [splice_len _ _ _ (by have := Hle.out; simp; omega)]; simpa using Hle.out, by unfold splice; simp⟩
  clear Hg0 Hb1 hg2 hbel
  go_loopw [10] (fun i wr => ∃ (p : Nat) (cur : List Value), 1 ≤ p ∧ p ≤ N ∧ i = .int .i64 p ∧ wr.heap[w.heap.size]? = some (.cells cur.toArray 5 (0, 0)) ∧ N ≤ cur.length ∧ cur.take p = List.replicate p (.int .u8 v) ∧ Below w.heap.size w wr) (fun i _ => N - (intOf i).toNat)
  case atStart => exact hcur.elim fun cur h => ⟨1, cur, by omega, by omega, rfl, h.1, h.2.1, h.2.2, hb2⟩
  case round =>
    obtain ⟨p, cur, hp1, hpN, rfl, hg, hcl, hct, hB⟩ := hrel
    have Hg := Lib.hid hg
    have Ht := Lib.hid hct
    clear hg hct hcur hb2
    by_cases hlt : p < N
    · have hs1 : ∀ W, (Instr.slice 42 (.slice (some ⟨w.heap.size, 0, none⟩) N N) (some (.int .i64 p)) none none).run Tryd.prog W = .ok (.slice (some ⟨w.heap.size, p, none⟩) (N - p) (N - p)) W := fun W => slice42_from W _ N N p (by omega) hlt
      obtain ⟨c, hc⟩ : ∃ c, c = min p 8192 := ⟨_, rfl⟩
      have hs2 : ∀ W, (Instr.slice 42 (.slice (some ⟨w.heap.size, 0, none⟩) N N) none (some (.int .i64 c)) none).run Tryd.prog W = .ok (.slice (some ⟨w.heap.size, 0, none⟩) c N) W := fun W => slice42_to W _ N N c (by omega)
      obtain ⟨k, hk⟩ : ∃ k, k = min c (N - p) := ⟨_, rfl⟩
      have K1 := Lib.hid hk
      have K2 : Hid (∀ j, j < k → wr.cell? ⟨w.heap.size, 0 + j, none⟩ = some (.int .u8 v)) := Lib.hid (fun j hj => by
        have h1 : (cur.take p)[j]? = some (.int .u8 v) := by rw [Ht.out, List.getElem?_replicate, if_pos (by omega)]
        rw [List.getElem?_take_of_lt (by omega)] at h1
        rw [Nat.zero_add]
        exact cell_of_row Hg.out j _ h1)
      have K3 := Lib.hid (show p + k ≤ cur.length by omega)
      have hk1 : 1 ≤ k ∧ p + k ≤ N := by omega
      have KT := Lib.hid (splice_take cur p k (.int .u8 v) Ht.out (by omega))
      have KL := Lib.hid (show (splice cur p (List.replicate k (.int .u8 v))).length = cur.length from splice_len _ _ _ (by rw [List.length_replicate]; omega))
      obtain ⟨hk1, hk2⟩ := hk1
      clear hk
      have hBd : ∀ q, Below w.heap.size w (wr.drewN q) := fun q => below_drewN hB q
      have Hgd : ∀ q, Hid ((wr.drewN q).heap[w.heap.size]? = some (.cells cur.toArray 5 (0, 0))) := fun q => by have := Hg.out; exact Lib.hid (by simpa using this)
      have K2d : ∀ q, Hid (∀ j, j < k → (wr.drewN q).cell? ⟨w.heap.size, 0 + j, none⟩ = some (.int .u8 v)) := fun q => Lib.hid (fun j hj => by have := K2.out j hj; simpa using this)
      by_cases h8 : p ≤ 8192
      · obtain rfl : c = p := by omega
        clear hc
        go_wp2
        go_region_law ((refine step_copy_rep rfl (.tmp 70) (.tmp 73) rfl w.heap.size c (N - c) (N - c) w.heap.size 0 c N (by simp [Act.eval, Act.put]) (by simp [Act.eval, Act.put]) cur (Hgd _) k v K1 (K2d _) K3 w.heap.size w (hBd _) (Nat.le_refl _) ?_; intro w3 hg3 hb3))
        all_goals
          have hwr : IntKind.i64.wrap ((c : Int) + (k : Int)) = (c : Int) + (k : Int) := IntWalk.i64_in _ (by omega)

          go_simp

          clear hwr
          go_wp2
          go_roundw
          case rel => exact ⟨c + k, _, by omega, hk2, by go_num, hg3.out, by rw [KL.out]; exact hcl, KT.out, hb3⟩
          case measure => simp [intOf]; omega
      · obtain rfl : c = 8192 := by omega
        have hs3 : ∀ W, (Instr.slice 42 (.slice (some ⟨w.heap.size, 0, none⟩) N N) none (some (.int .i64 8192)) none).run Tryd.prog W = .ok (.slice (some ⟨w.heap.size, 0, none⟩) 8192 N) W := hs2
        clear hs2 hc
        go_wp2
        go_region_law ((refine step_copy_rep rfl (.tmp 70) (.tmp 73) rfl w.heap.size p (N - p) (N - p) w.heap.size 0 8192 N (by simp [Act.eval, Act.put]) (by simp [Act.eval, Act.put]) cur (Hgd _) k v K1 (K2d _) K3 w.heap.size w (hBd _) (Nat.le_refl _) ?_; intro w3 hg3 hb3))
        all_goals
          have hwr : IntKind.i64.wrap ((p : Int) + (k : Int)) = (p : Int) + (k : Int) := IntWalk.i64_in _ (by omega)

          go_simp

          clear hwr
          go_wp2
          go_roundw
          case rel => exact ⟨p + k, _, by omega, hk2, by go_num, hg3.out, by rw [KL.out]; exact hcl, KT.out, hb3⟩
          case measure => simp [intOf]; omega
    · obtain rfl : p = N := by omega
      go_wp2
      go_ret
      exact ⟨rfl, cur, Hg.out, hcl, Ht.out, hB⟩
end Go.Proofs.YtjodidkjpdjmoaaDoor
