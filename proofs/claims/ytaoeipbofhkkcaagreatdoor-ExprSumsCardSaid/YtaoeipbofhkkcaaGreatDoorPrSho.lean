/- What strings.Builder's methods do when they are called on the builder that stands in the program's writer (a block of the writer's type, its buffer behind it); a text is shorter than 140737488355328 bytes. What the writer's put and leafText of the program do when they are called. What the writer's expr and part of the program do when they are called, at a right expression. What the writer's expr of the program does when it is called, at a right expression with parts; and all of it by induction. What the program's Show of expressions does when it is called; its text is shorter than 1000000 bytes. -/
import Derived.Test.YtaoeipbofhkkcaaGreatDoorNumOwn
import Derived.Test.YtaoeipbofhkkcaaGreatDoorPrEva
import Derived.Lib.Builder
import Derived.Lib.AppendStr
import Derived.Lib.UnsafeStr
import Derived.Laws.EntriesVeiled
import Derived.Test.YtaoeipbofhkkcaaGreatDoorNumShow
import Derived.Test.YtaoeipbofhkkcaaGreatDoorPrRgt
namespace Go.Proofs.YtaoeipbofhkkcaaGreatDoor
open Go.RowKit

/-- block b is a writer whose builder holds l; its buffer, if any, is younger than b -/
structure WOf (b : Nat) (p v : Value) (l : List UInt8) (w : World) : Prop where
  blk : w.heap[b]? = some (.cells #[p, v] 63 (0, 0))
  row : w.ownsRow (b + 1) 5 1 v l.length (bys l)
def me (b : Nat) : Value := .pointer (some ⟨b, 0, none⟩)
def WB (b : Nat) (l : List UInt8) (w : World) : Prop := ∃ p v, (p = .pointer none ∨ p = me b) ∧ WOf b p v l w
theorem own_set {w : World} {b j n : Nat} {u v : Value} {xs : List Value} (h : w.ownsRow (b + 1) 5 1 v n xs) : (w.setCell ⟨b, j, none⟩ u).ownsRow (b + 1) 5 1 v n xs := by
  refine ⟨h.1, ?_⟩
  rcases h.2 with h2 | ⟨g, cap, cur, hv, hb, hg, r⟩
  · exact .inl h2
  · exact .inr ⟨g, cap, cur, hv, hb, (set_other j u (by omega)).trans hg, r⟩
theorem WOf.lt {b : Nat} {p v : Value} {l : List UInt8} {w : World} (h : WOf b p v l w) : b < w.heap.size := (Array.getElem?_eq_some_iff.1 h.blk).1
theorem WB.lt {b : Nat} {l : List UInt8} {w : World} (h : WB b l w) : b < w.heap.size := by
  obtain ⟨p, v, _, h⟩ := h
  exact h.lt
theorem WOf.slice {b : Nat} {p v : Value} {l : List UInt8} {w : World} (h : WOf b p v l w) : ∃ a c, v = .slice a l.length c := own_len h.row
theorem WOf.me {b : Nat} {p v : Value} {l : List UInt8} {w : World} (h : WOf b p v l w) : WOf b (me b) v l (w.setCell ⟨b, 0, none⟩ (me b)) := ⟨set_heap h.blk 0 _, own_set h.row⟩
theorem WOf.put {b : Nat} {p v v' : Value} {l l' : List UInt8} {w w' : World} (h : WOf b p v l w) (hb : Below (b + 1) w w') (ho : w'.ownsRow (b + 1) 5 1 v' l'.length (bys l')) : WOf b p v' l' (w'.setCell ⟨b, 1, none⟩ v') :=
  ⟨set_heap ((hb.block b (Nat.lt_succ_self b)).trans h.blk) 1 _, own_set ho⟩
/-- all blocks stand as they stood, but b and rows of bytes -/
def Keep (b : Nat) (w w' : World) : Prop := ∀ (k : Nat) (cs : Array Value) (t : TypeId) (fr : Nat × Nat), k ≠ b → t ≠ 5 → w.heap[k]? = some (.cells cs t fr) → w'.heap[k]? = some (.cells cs t fr)
theorem Keep.refl (b : Nat) (w : World) : Keep b w w := fun _ _ _ _ _ _ h => h
theorem Keep.trans {b : Nat} {w w' w'' : World} (h : Keep b w w') (h' : Keep b w' w'') : Keep b w w'' := fun k cs t fr hk ht hh => h' k cs t fr hk ht (h k cs t fr hk ht hh)
theorem Keep.of {b : Nat} {w w' : World} (h : Below w.heap.size w w') : Keep b w w' := fun _ _ _ _ _ _ hh => below_heap h hh
theorem Keep.set {b : Nat} (w : World) (j : Nat) (u : Value) : Keep b w (w.setCell ⟨b, j, none⟩ u) := fun _ _ _ _ hk _ hh => (set_other j u hk).trans hh
theorem Keep.grown {b n B : Nat} {w w' : World} {v : Value} {xs : List Value} (ho : w.ownsRow B 5 1 v n xs) (hg : w.grownBy w' v.ownBlock) : Keep b w w' := fun k cs t fr _ ht hh => by
  refine (hg.block k (Array.getElem?_eq_some_iff.1 hh).1 fun e => ?_).trans hh
  rcases ho.2 with ⟨rfl, _⟩ | ⟨g, cap, cur, rfl, _, hg', _⟩
  · cases e
  · simp only [Value.ownBlock, Option.some.injEq] at e
    subst e
    rw [hh] at hg'
    simp only [Option.some.injEq, Obj.cells.injEq] at hg'
    exact ht hg'.2.1
theorem WB.below {b : Nat} {l : List UInt8} {w w' : World} (h : WB b l w) (hb : Below w.heap.size w w') : WB b l w' := by
  obtain ⟨p, v, hp, h1, h2⟩ := h
  refine ⟨p, v, hp, below_heap hb h1, h2.1, ?_⟩
  rcases h2.2 with h3 | ⟨g, cap, cur, hv, hb', hg, r⟩
  · exact .inl h3
  · exact .inr ⟨g, cap, cur, hv, hb', below_heap hb hg, r⟩
theorem sizeB : (Tryz.prog.info? 61).map (·.size) = some 2 := by kernel_rfl
theorem liesB : liesAt Tryz.prog Tryz.prog.depth 63 (2 / Tryz.prog.cellsOf 63) 0 61 1 = true := by kernel_rfl
theorem noEsc (x : Value) (w : World) : (callFunc 96 #[x]).run Tryz.prog w = .ok (.value x) w := by
  rw [run_callFunc_extern Tryz.func96 (by kernel_rfl) (by kernel_rfl) (by kernel_rfl) (e := Extern.AbiNoEscape.same) (by kernel_rfl), Lib.run_noEscape]
  rfl
set_option maxHeartbeats 1000000 in
set_option maxRecDepth 100000 in
/-- behind the check the builder knows itself -/
theorem wcheck_any (b : Nat) (p v : Value) (hp : p = .pointer none ∨ p = me b) (l : List UInt8) (w : World) (h : WOf b p v l w) :
    Calls Tryz.prog 78 #[me b] w fun e w' => e = .returned (.tuple #[]) ∧ WOf b (me b) v l w' ∧ Below b w w' ∧ Keep b w w' := by
  obtain ⟨j, hj, hjs⟩ := Option.map_eq_some_iff.1 sizeB
  have h0 : w.cell? ⟨b, 0, none⟩ = some p := (cells_two h.blk).1
  have hm := h.me
  have H := Lib.hid h
  rcases hp with rfl | rfl
  · have hsh : w.shape? b = some (63, 2) := by simp [World.shape?, h.blk]
    have hfz := Lib.frozen_of_heap h.blk 0
    have hto := Lib.run_to_unsafe w ⟨b, 0, none⟩ Tryz.underlying58 Tryz.underlying120 hj (by rw [hjs]; decide) hsh (Nat.zero_lt_succ 1)
    have hfrom := Lib.run_from_unsafe w ⟨b, 0, none⟩ Tryz.underlying120 Tryz.underlying58 hj hsh liesB
    have hno := noEsc
    have HM := Lib.hid hm
    clear h hm
    unfold me
    go_enter Tryz.func78, Tryz.ntmps78
    go_wp2
    go_end0
    exact ⟨rfl, HM.out, (Below.refl b w).setCell (p := ⟨b, 0, none⟩) (Nat.le_refl _) _, Keep.set w 0 _⟩
  · have hsame := Lib.run_neq_ptr_same w ⟨b, 0, none⟩ Tryz.underlying58 hj
    unfold me at h0
    clear h hm
    unfold me
    go_enter Tryz.func78, Tryz.ntmps78
    go_wp2
    go_end0
    exact ⟨rfl, H.out, Below.refl b w, Keep.refl b w⟩
theorem bys_app (l m : List UInt8) : bys (l ++ m) = bys l ++ bys m := by simp [bys]
theorem one_new (w : World) (c : UInt8) : ∀ j u, (bys [c])[j]? = some u → (w.alloc (Obj.cells (bys [c]).toArray 5)).cell? ((⟨w.heap.size, 0, none⟩ : Addr).add j) = some u := fun j u hj => by
  match j, hj with
  | 0, hj => simp [bys] at hj; subst hj; simp [bys, Addr.add]
  | j + 1, hj => simp [bys] at hj
theorem one_cell (c : UInt8) : ∀ u ∈ bys [c], u.oneCell' = true := by simp [bys, Value.oneCell']
theorem wlen_any (b : Nat) (l : List UInt8) (w : World) (h : WB b l w) :
    Calls Tryz.prog 60 #[me b] w fun e w' => e = .returned (.int .i64 l.length) ∧ w' = w := by
  obtain ⟨p, v, _, h⟩ := h
  obtain ⟨a, c, rfl⟩ := h.slice
  have c1 := (cells_two h.blk).2
  clear h
  unfold me
  go_enter Tryz.func60, Tryz.ntmps60
  go_wp2
  go_ret
  exact ⟨rfl, rfl⟩
set_option maxHeartbeats 2000000 in
set_option maxRecDepth 100000 in
theorem wbyte_any (b : Nat) (l : List UInt8) (c : UInt8) (w : World) (h : WB b l w) (hlen : l.length < 140737488355328) :
    Calls Tryz.prog 61 #[me b, .int .u8 (c.toNat : Nat)] w fun e w' => e = .returned .nilIface ∧ WB b (l ++ [c]) w' ∧ Below b w w' ∧ Keep b w w' := by
  obtain ⟨i0, hi, hz0, hz1, hz2⟩ := info_parts info5
  obtain ⟨p, v, hp, h⟩ := h
  have hck := wcheck_any b p v hp l w h
  unfold me at hck ⊢
  go_enter Tryz.func61, Tryz.ntmps61
  go_wp2_with (first
    | (go_at_call 78; refine hck.mono ?_; rintro e w1 ⟨rfl, hW, hB1, hK1⟩; have HK1 := Lib.hid hK1; have c0 := (cells_two hW.blk).1; have c1 := (cells_two hW.blk).2; have HW := Lib.hid hW; have HB1 := Lib.hid hB1; clear hW hB1 hK1)
    | (at_builtin; refine wpList_append_own _ rfl (.tmp 11) (.tmp 13) 59 rfl (b + 1) 5 i0 (.int .u8 0) 1 1 Tryz.underlying59 hi hz0 hz1 hz2 rfl (by decide) v l.length (bys l) rfl (HW.out.row.alloc _) ⟨w1.heap.size, 0, none⟩ 1 1 (bys [c]) rfl rfl (one_new _ _) (one_cell c) (by unfold maxLen; omega) (by omega) (by have := HW.out.lt; simp; omega) ?_
       intro v3 w3 hown3 hgr _
       have hb4 := ((Below.refl (b + 1) w1).alloc HW.out.lt (Obj.cells (bys [c]).toArray 5)).grown hgr (by have := HW.out.lt; simp; omega) (fun r e => (HW.out.row.lt r e).1)
       have hk4 := (Keep.of (b := b) (box_below w1 (Obj.cells (bys [c]).toArray 5))).trans (Keep.grown (HW.out.row.alloc _) hgr)
       have d0 := (cells_two ((hb4.block b (Nat.lt_succ_self b)).trans HW.out.blk)).1
       have d1 := (cells_two ((hb4.block b (Nat.lt_succ_self b)).trans HW.out.blk)).2
       have f1 := Lib.frozen_of_heap ((hb4.block b (Nat.lt_succ_self b)).trans HW.out.blk) 1
       have HB4 := Lib.hid hb4
       have HK4 := Lib.hid hk4
       have HO := Lib.hid hown3
       obtain ⟨so, co, rfl⟩ := own_len hown3
       clear hgr hb4 hown3 hk4))
  go_ret
  refine ⟨rfl, ⟨_, _, .inr rfl, HW.out.put HB4.out ?_⟩, ?_, (HK1.out.trans HK4.out).trans (Keep.set _ 1 _)⟩
  · have := HO.out
    rw [← bys_app] at this
    simpa using this
  · exact (HB1.out.trans (HB4.out.mono (Nat.le_succ b))).setCell (p := ⟨b, 1, none⟩) (Nat.le_refl _) _
theorem str_bys (s : ByteArray) : Lib.strCells s = bys s.data.toList := by
  rw [Lib.strCells_eq]; rfl
set_option maxHeartbeats 2000000 in
set_option maxRecDepth 100000 in
theorem wstr_any (b : Nat) (l : List UInt8) (s : ByteArray) (w : World) (h : WB b l w) (hlen : l.length + s.size < 140737488355328) :
    Calls Tryz.prog 62 #[me b, .string s] w fun e w' => e = .returned (.tuple #[.int .i64 s.size, .nilIface]) ∧ WB b (l ++ s.data.toList) w' ∧ Below b w w' ∧ Keep b w w' := by
  obtain ⟨i0, hi, hz0, hz1, hz2⟩ := info_parts info5
  obtain ⟨p, v, hp, h⟩ := h
  have hck := wcheck_any b p v hp l w h
  unfold me at hck ⊢
  go_enter Tryz.func62, Tryz.ntmps62
  go_wp2_with (first
    | (go_at_call 78; refine hck.mono ?_; rintro e w1 ⟨rfl, hW, hB1, hK1⟩; have HK1 := Lib.hid hK1; have c0 := (cells_two hW.blk).1; have c1 := (cells_two hW.blk).2; have HW := Lib.hid hW; have HB1 := Lib.hid hB1; clear hW hB1 hK1)
    | (at_builtin; refine Lib.wpList_append_own_string w1 rfl _ _ 59 9 rfl (b + 1) 5 i0 Tryz.underlying59 Tryz.underlying9 hi hz0 hz1 hz2 v l.length (bys l) rfl HW.out.row s rfl (by unfold maxLen; omega) (by omega) (by have := HW.out.lt; omega) ?_
       intro v3 w3 hown3 hgr _
       have hb4 := (Below.refl (b + 1) w1).grown hgr HW.out.lt (fun r e => (HW.out.row.lt r e).1)
       have HK4 := Lib.hid (Keep.grown (b := b) HW.out.row hgr)
       have d0 := (cells_two ((hb4.block b (Nat.lt_succ_self b)).trans HW.out.blk)).1
       have d1 := (cells_two ((hb4.block b (Nat.lt_succ_self b)).trans HW.out.blk)).2
       have f1 := Lib.frozen_of_heap ((hb4.block b (Nat.lt_succ_self b)).trans HW.out.blk) 1
       have HB4 := Lib.hid hb4
       have HO := Lib.hid hown3
       obtain ⟨so, co, rfl⟩ := own_len hown3
       clear hgr hb4 hown3))
  go_ret2
  refine ⟨rfl, ⟨_, _, .inr rfl, HW.out.put HB4.out ?_⟩, ?_, (HK1.out.trans HK4.out).trans (Keep.set _ 1 _)⟩
  · have := HO.out
    rw [str_bys] at this
    simpa [bys] using this
  · exact (HB1.out.trans (HB4.out.mono (Nat.le_succ b))).setCell (p := ⟨b, 1, none⟩) (Nat.le_refl _) _
set_option maxHeartbeats 2000000 in
set_option maxRecDepth 100000 in
theorem wtext_any (b : Nat) (l : List UInt8) (w : World) (h : WB b l w) (h0 : l ≠ []) (hlen : l.length < 140737488355328) :
    Calls Tryz.prog 31 #[me b] w fun e w' => e = .returned (.string ⟨l.toArray⟩) ∧ Below b w w' := by
  obtain ⟨p, v, hp, h⟩ := h
  have hl0 : 0 < l.length := List.length_pos_iff.2 h0
  obtain ⟨g, cap, cur, rfl, hbg, hg, hnc, hcm, hcs, htake⟩ : ∃ g cap cur, v = .slice (some ⟨g, 0, none⟩) l.length cap ∧ b + 1 ≤ g ∧ w.heap[g]? = some (.cells cur 5 (0, 0)) ∧ l.length ≤ cap ∧ cap ≤ maxLen ∧ cur.size = cap * 1 ∧ cur.toList.take (l.length * 1) = bys l := by
    rcases h.row.2 with ⟨_, hz⟩ | ⟨g, cap, cur, hv, r⟩
    · omega
    · exact ⟨g, cap, cur, hv, r⟩
  have c1 := (cells_two h.blk).2
  have hSD : ∀ W, (Builtin.unsafeSliceData_ #[59] 79 #[.slice (some ⟨g, 0, none⟩) l.length cap]).run Tryz.prog W = .ok (.pointer (some ⟨g, 0, none⟩)) W := fun W => Lib.run_unsafeSliceData_row W _ _ _ _ _ (by omega)
  have hUS := Lib.run_unsafeString_row (P := Tryz.prog) w.drew 79 3 9 5 Tryz.underlying79 (by kernel_rfl) g cur.size (by have hg' : w.drew.heap[g]? = some (.cells cur 5 (0, 0)) := hg; simp [World.shape?, hg']) l h0 (by omega) (by omega) (fun j x hx => h.row.cells (g := g) rfl j (.int .u8 x.toNat) (by simp [bys, hx]))
  clear h htake
  unfold me
  go_enter Tryz.func31, Tryz.ntmps31
  go_wp2
  go_region
  all_goals
    go_wp2
    go_ret
    exact ⟨rfl, Lib.below_freeze (Below.refl b w).drew (p := ⟨g, 0, none⟩) (show b ≤ g by omega) _⟩
end Go.Proofs.YtaoeipbofhkkcaaGreatDoor
namespace Go.Proofs.YtaoeipbofhkkcaaGreatDoor
open Go.RowKit Go.Proofs.NumMath

/-- a text with one more behind it -/
def cat (l t : List UInt8) : List UInt8 := if l = [] then t else l ++ 32 :: t
theorem cat_ne {l t : List UInt8} (h : t ≠ []) : cat l t ≠ [] := by unfold cat; split <;> simp [h]
theorem cat_cat {l t u : List UInt8} (h : t ≠ []) : cat (cat l t) u = cat l (t ++ 32 :: u) := by
  by_cases hl : l = []
  · simp [cat, hl, h]
  · simp [cat, hl]
theorem cat_len (l t : List UInt8) : (cat l t).length ≤ l.length + t.length + 1 := by
  unfold cat; split
  · omega
  · simp; omega
set_option maxHeartbeats 1000000 in
theorem put_any (b : Nat) (l t : List UInt8) (w : World) (h : WB b l w) (hlen : l.length + t.length + 1 < 140737488355328) :
    Calls Tryz.prog 41 #[me b, .string ⟨t.toArray⟩] w fun e w' => e = .returned (.tuple #[]) ∧ WB b (cat l t) w' ∧ Below b w w' ∧ Keep b w w' := by
  have hL := wlen_any b l w h
  by_cases hl : l = []
  · subst hl
    have hS := wstr_any b [] ⟨t.toArray⟩ w h (by simp [ByteArray.size]; omega)
    have e : cat [] t = t := rfl
    rw [e]
    unfold me at hL hS ⊢
    go_enter Tryz.func41, Tryz.ntmps41
    go_wp2_with (first
      | (go_at_call 60; refine hL.mono ?_; rintro e w1 ⟨rfl, rfl⟩)
      | (go_at_call 62; refine hS.mono ?_; rintro e w3 ⟨rfl, hW3, hB3, hK3⟩))
    go_end0
    exact ⟨rfl, by simpa using hW3, hB3, hK3⟩
  · have e : cat l t = (l ++ [32]) ++ t := by simp [cat, hl]
    rw [e]
    have hW := wbyte_any b l 32 w h (by omega)
    have hpos : (0 : Int) < (l.length : Int) := by have := List.length_pos_iff.2 hl; omega
    have hS : ∀ w', WB b (l ++ [32]) w' → Calls Tryz.prog 62 #[me b, .string ⟨t.toArray⟩] w' fun e w'' => e = .returned (.tuple #[.int .i64 (⟨t.toArray⟩ : ByteArray).size, .nilIface]) ∧ WB b ((l ++ [32]) ++ t) w'' ∧ Below b w' w'' ∧ Keep b w' w'' := fun w' h' => by
      have := wstr_any b (l ++ [32]) ⟨t.toArray⟩ w' h' (by simp [ByteArray.size]; omega)
      simpa using this
    have HS := Lib.hid hS
    clear hS h
    unfold me at hL hW HS ⊢
    go_enter Tryz.func41, Tryz.ntmps41
    go_wp2_with (first
      | (go_at_call 60; refine hL.mono ?_; rintro e w1 ⟨rfl, rfl⟩)
      | (go_at_call 61; refine hW.mono ?_; rintro e w2 ⟨rfl, hW2, hB2, hK2⟩)
      | (go_at_call 62; refine (HS.out _ hW2).mono ?_; rintro e w3 ⟨rfl, hW3, hB3, hK3⟩))
    go_end0
    exact ⟨rfl, hW3, hB2.trans hB3, hK2.trans hK3⟩
/-- what leafText is called on -/
theorem leaf_any (r : RE) (hk : okR r = true) (h7 : rkR r = 7) (v : Value) (w : World) (hv : ExV w v (toEx r)) (hT : Tab16 w) :
    Calls Tryz.prog 42 #[v] w fun e w' => e = .returned (.string ⟨(textR r 1).toArray⟩) ∧ Below w.heap.size w w' := by
  cases r with
  | num n =>
    obtain ⟨hn, b, o, sp, c, rfl, hsp, hl⟩ := hv
    have hs := show_any n hn _ (hT.below (box_below w (Obj.cells #[Value.string ⟨#[35]⟩, Value.int .u16 n, Value.string ⟨#[]⟩, Value.slice sp 0 c] 25)))
    clear hl hsp hT
    go_enter Tryz.func42, Tryz.ntmps42
    go_wp2_with (go_at_call 63; refine hs.mono ?_; rintro e w' ⟨rfl, hB⟩)
    go_ret
    exact ⟨rfl, (box_below _ _).trans (hB.mono (box_below _ _).size)⟩
  | nam s =>
    obtain ⟨hn, b, o, sp, c, rfl, hsp, hl⟩ := hv
    clear hl hsp hT
    go_enter Tryz.func42, Tryz.ntmps42
    go_wp2
    go_ret
    exact ⟨rfl, box_below _ _⟩
  | here =>
    obtain ⟨hn, b, o, sp, c, rfl, hsp, hl⟩ := hv
    clear hl hsp hT
    go_enter Tryz.func42, Tryz.ntmps42
    go_wp2
    go_ret
    exact ⟨rfl, box_below _ _⟩
  | un o a => cases o <;> cases h7
  | bin o a b => cases o <;> cases h7
end Go.Proofs.YtaoeipbofhkkcaaGreatDoor
namespace Go.Proofs.YtaoeipbofhkkcaaGreatDoor
open Go.RowKit Go.Proofs.NumMath

/-- writing the expression r, in a place for what binds so -/
def Writes (r : RE) : Prop := ∀ (w0 : World) (b : Nat) (l : List UInt8) (v : Value) (w : World), w0.heap.size ≤ b → ExV w0 v (toEx r) → Tab16 w0 → Below w0.heap.size w0 w → WB b l w → l.length + (textR r 1).length + 1 < 140737488355328 →
  Calls Tryz.prog 30 #[me b, v] w fun e w' => e = .returned (.tuple #[]) ∧ WB b (cat l (textR r 1)) w' ∧ Below b w w' ∧ Keep b w w'
theorem writes_leaf (r : RE) (hk : okR r = true) (h7 : rkR r = 7) : Writes r := by
  intro w0 b l v w hb hv hT hB hW hlen
  have hlt := hW.lt
  have hlf := fun W (hW : Below w.heap.size w W) => leaf_any r hk h7 v W (hv.below (hB.trans (hW.mono hB.size))) (hT.below (hB.trans (hW.mono hB.size)))
  have hpt := fun W h => put_any b l (textR r 1) W h hlen
  have hop : (rankL (match toEx r with | .mk op _ _ _ => op)).1 = 7 := by
    cases r with
    | num n => rfl
    | nam s => rfl
    | here => rfl
    | un o a => cases o <;> cases h7
    | bin o a b => cases o <;> cases h7
  obtain ⟨E, hE⟩ : ∃ E, toEx r = E := ⟨_, rfl⟩
  rw [hE] at hv hop
  obtain ⟨op, n, name, sub⟩ := E
  have hlv := level_any op
  dsimp only at hop
  rw [hop] at hlv
  obtain ⟨hn, p, o, sp, c, rfl, hsp, hl⟩ := hv
  have HW := Lib.hid hW
  have HL := Lib.hid hlf
  have HP := Lib.hid hpt
  clear hl hsp hlf hpt hT hW hE
  unfold me at HP ⊢
  go_enter Tryz.func30, Tryz.ntmps30
  go_wp2_with (first
    | (go_at_call 40; refine (hlv _).mono ?_; rintro e w1 ⟨rfl, rfl⟩)
    | (go_at_call 42; refine (HL.out _ (box_below _ _)).mono ?_; rintro e w2 ⟨rfl, hB2⟩)
    | (go_at_call 41; refine (HP.out _ (HW.out.below ((box_below _ _).trans (hB2.mono (box_below _ _).size)))).mono ?_; rintro e w3 ⟨rfl, hW3, hB3, hK3⟩))
  go_end0
  have h2 := (box_below w _).trans (hB2.mono (box_below w _).size)
  exact ⟨rfl, hW3, (h2.mono (Nat.le_of_lt hlt)).trans hB3, (Keep.of h2).trans hK3⟩
theorem rank_toEx (r : RE) {op : List UInt8} {n : Nat} {name : List UInt8} {sub : List Ex} (h : toEx r = .mk op n name sub) : (rankL op).1 = rkR r := by
  cases r with
  | num n => cases h; rfl
  | nam s => cases h; rfl
  | here => cases h; rfl
  | un o a => cases h; cases o <;> rfl
  | bin o a b => cases h; cases o <;> rfl
theorem text_low (r : RE) (w : Nat) (h : w ≤ rkR r) : textR r w = textR r 1 := by rw [← text_show, ← text_show, tokR_low r w h]
theorem text_high (r : RE) (w : Nat) (h : rkR r < w) (h7 : w ≤ 7) : textR r w = [40] ++ 32 :: (textR r 1 ++ 32 :: [41]) := by
  rw [← text_show, ← text_show, tokR_high r w h h7, show lpT :: (tokR r 1 ++ [rpT]) = [lpT] ++ (tokR r 1 ++ [rpT]) from rfl, showT_app [lpT] _ (by simp) (by simp), showT_app _ [rpT] (tokR_ne r 1) (by simp)]
  rfl
theorem text_ne1 (r : RE) (hk : okR r = true) : textR r 1 ≠ [] := by
  intro h
  have := line_text r hk
  rw [h] at this
  simp only [lineT] at this
  exact tokR_ne r 1 (Except.ok.inj this).symm
theorem text_ne (r : RE) (hk : okR r = true) (w : Nat) (h7 : w ≤ 7) : textR r w ≠ [] := by
  by_cases h1 : w ≤ rkR r
  · rw [text_low r w h1]; exact text_ne1 r hk
  · rw [text_high r w (by omega) h7]; simp
def PartW (r : RE) (m : Nat) : Prop := ∀ (w0 : World) (b : Nat) (l : List UInt8) (v : Value) (w : World), w0.heap.size ≤ b → ExV w0 v (toEx r) → Tab16 w0 → Below w0.heap.size w0 w → WB b l w → l.length + (textR r m).length + 1 < 140737488355328 →
  Calls Tryz.prog 43 #[me b, v, .int .i64 m] w fun e w' => e = .returned (.tuple #[]) ∧ WB b (cat l (textR r m)) w' ∧ Below b w w' ∧ Keep b w w'
set_option maxHeartbeats 2000000 in
theorem part_any (r : RE) (hne : textR r 1 ≠ []) (m : Nat) (hm : m ≤ 7) (h : Writes r) : PartW r m := by
  intro w0 b l v w hb hv hT hB hW hlen
  have hlt := hW.lt
  obtain ⟨E, hE⟩ : ∃ E, toEx r = E := ⟨_, rfl⟩
  have hv' := hv
  rw [hE] at hv
  obtain ⟨op, n, name, sub⟩ := E
  have hlv := level_any op
  rw [rank_toEx r hE] at hlv
  obtain ⟨hn, p, o, sp, c, rfl, hsp, hl⟩ := hv
  obtain ⟨x, hx⟩ : ∃ x, sub.length = x := ⟨_, rfl⟩
  rw [hx] at hv' ⊢
  have HV := Lib.hid hv'
  have HB := Lib.hid hB
  have HT := Lib.hid hT
  have HW := Lib.hid hW
  by_cases hr : m ≤ rkR r
  · rw [text_low r m hr] at hlen ⊢
    have hE := fun l v w h1 h2 h3 h4 => h w0 b l v w hb h1 hT h2 h3 h4
    have HE := Lib.hid hE
    have hge : (m : Int) ≤ (rkR r : Int) := by omega
    clear hl hsp hE hx hv' hB hT hW h
    unfold me at HE ⊢
    go_enter Tryz.func43, Tryz.ntmps43
    go_wp2_with (first
      | (go_at_call 40; refine (hlv _).mono ?_; rintro e w1 ⟨rfl, rfl⟩)
      | (go_at_call 30; refine (HE.out l _ _ HV.out (HB.out.trans ((box_below w _).mono HB.out.size)) (HW.out.below (box_below w _)) hlen).mono ?_; rintro e w2 ⟨rfl, hW2, hB2, hK2⟩))
    refine bodyPost_ret (results_none rfl _ _ _) rfl ?_
    exact ⟨rfl, hW2, ((box_below w _).mono (Nat.le_of_lt hlt)).trans hB2, (Keep.of (box_below w _)).trans hK2⟩
  · have hlo : ¬ (m : Int) ≤ (rkR r : Int) := by omega
    have hT2 := text_high r m (by omega) hm
    rw [hT2] at hlen ⊢
    simp only [List.length_append, List.length_cons, List.length_nil] at hlen
    have hP := fun W h => put_any b l [40] W h (by simp; omega)
    have hE := fun v w h1 h2 h3 => h w0 b (cat l [40]) v w hb h1 hT h2 h3 (by have := cat_len l [40]; simp at this; omega)
    have hQ := fun W h => put_any b (cat (cat l [40]) (textR r 1)) [41] W h (by have := cat_len (cat l [40]) (textR r 1); have := cat_len l [40]; simp at *; omega)
    rw [← cat_cat (l := l) (t := [40]) (by simp), ← cat_cat (l := cat l [40]) hne]
    have HP := Lib.hid hP
    have HE := Lib.hid hE
    have HQ := Lib.hid hQ
    clear hl hsp hE hx hv' hB hT hW h hP hQ hT2
    unfold me at HP HE HQ ⊢
    go_enter Tryz.func43, Tryz.ntmps43
    have hbx := box_below w (Obj.cells #[Value.string ⟨op.toArray⟩, Value.int .u16 n, Value.string ⟨name.toArray⟩, Value.slice sp x c] 25)
    have hbw := hbx.mono (Nat.le_of_lt hlt)
    have HX := Lib.hid hbx
    have HY := Lib.hid hbw
    clear hbx hbw
    go_wp2_with (first
      | (go_at_call 40; refine (hlv _).mono ?_; rintro e w1 ⟨rfl, rfl⟩)
      | (go_at_call 41; (with_reducible refine (HP.out _ (HW.out.below HX.out)).mono ?_); rintro e w1 ⟨rfl, hW1, hB1, hK1⟩; obtain ⟨c0, c1, c2, c3⟩ := cells_box (hK1 w.heap.size _ 25 (0, 0) (by omega) (by decide) (heap_alloc_new w _)); have HW1 := Lib.hid hW1; have HB1 := Lib.hid hB1; have HK1 := Lib.hid hK1; clear hW1 hB1 hK1)
      | (go_at_call 30; refine (HE.out _ _ HV.out (HB.out.trans ((HY.out.trans HB1.out).mono hb)) HW1.out).mono ?_; rintro e w2 ⟨rfl, hW2, hB2, hK2⟩; have HW2 := Lib.hid hW2; have HB2 := Lib.hid hB2; have HK2 := Lib.hid hK2; clear hW2 hB2 hK2)
      | (go_at_call 41; (with_reducible refine (HQ.out _ HW2.out).mono ?_); rintro e w3 ⟨rfl, hW3, hB3, hK3⟩))
    go_end0
    exact ⟨rfl, hW3, HY.out.trans (HB1.out.trans (HB2.out.trans hB3)), (Keep.of HX.out).trans (HK1.out.trans (HK2.out.trans hK3))⟩
end Go.Proofs.YtaoeipbofhkkcaaGreatDoor
namespace Go.Proofs.YtaoeipbofhkkcaaGreatDoor
open Go.RowKit Go.Proofs.NumMath

theorem text_inv (a : RE) : textR (.un .inv a) 1 = [78, 79, 84] ++ 32 :: textR a 3 := by simp [textR, parT]
theorem text_neg (a : RE) : textR (.un .neg a) 1 = [45] ++ 32 :: textR a 6 := by simp [textR, parT]
theorem text_bin (o : O2) (a b : RE) : textR (.bin o a b) 1 = textR a (rk2 o) ++ 32 :: (txt2 o ++ 32 :: textR b (rk2 o + 1)) := by
  have h : decide (rk2 o < 1) = false := by cases o <;> rfl
  rw [textR, h]
  simp [parT]
set_option maxHeartbeats 2000000 in
theorem writes_un (o : O1) (a : RE) (hp : ∀ m ≤ 7, PartW a m) : Writes (.un o a) := by
  intro w0 b l v w hb hv hT hB hW hlen
  have hlt := hW.lt
  obtain ⟨hn, p, of, sp, c, rfl, hsp, hl⟩ := hv
  obtain rfl := hsp (by simp)
  obtain ⟨X, hX⟩ : ∃ X, toEx a = X := ⟨_, rfl⟩
  rw [hX] at hl
  obtain ⟨xo, xn, xs, xl⟩ := X
  simp only [ListAt, CellsAt, and_true] at hl
  obtain ⟨x0, x1, x2, x3, b', o', sp', c', x4, x5, x6⟩ := hl
  have hv2 : ExV w0 (.agg #[.string ⟨xo.toArray⟩, .int .u16 (xn : Nat), .string ⟨xs.toArray⟩, .slice sp' xl.length c']) (toEx a) := by rw [hX]; exact ⟨x2, b', o', sp', c', rfl, x5, x6⟩
  obtain ⟨x, hx⟩ : ∃ x, xl.length = x := ⟨_, rfl⟩
  rw [hx] at x4 hv2
  have HV := Lib.hid hv2
  have HB := Lib.hid hB
  have HW := Lib.hid hW
  have HT := Lib.hid hT
  clear hsp hX hx hB hW hT x5 x6 hv2
  cases o
  all_goals
    first | rw [text_inv] at hlen ⊢ | rw [text_neg] at hlen ⊢
    simp only [List.length_append, List.length_cons, List.length_nil] at hlen
  · have hlv : ∀ w, Calls Tryz.prog 40 #[.string ⟨#[78, 79, 84]⟩] w fun e w' => e = .returned (.int .i64 3) ∧ w' = w := level_any [78, 79, 84]
    have HP := Lib.hid (fun W h => put_any b l [78, 79, 84] W h (by simp; omega))
    have HQ := Lib.hid (fun v w h1 h2 h3 => hp 3 (by omega) w0 b (cat l [78, 79, 84]) v w hb h1 HT.out h2 h3 (by have := cat_len l [78, 79, 84]; simp at this; omega))
    rw [← cat_cat (l := l) (t := [78, 79, 84]) (by simp)]
    clear hp
    show Calls Tryz.prog 30 #[me b, .agg #[.string ⟨#[78, 79, 84]⟩, .int .u16 0, .string ⟨#[]⟩, .slice (some ⟨p, of, none⟩) 1 c]] w _
    have HX := Lib.hid (box_below w (Obj.cells #[Value.string ⟨#[78, 79, 84]⟩, Value.int .u16 0, Value.string ⟨#[]⟩, Value.slice (some ⟨p, of, none⟩) 1 c] 25))
    have HY := Lib.hid (HX.out.mono (Nat.le_of_lt hlt))
    unfold me at HP HQ ⊢
    go_enter Tryz.func30, Tryz.ntmps30
    go_wp2_with (first
      | (go_at_call 40; refine (hlv _).mono ?_; rintro e w1 ⟨rfl, rfl⟩)
      | (go_at_call 41; refine (HP.out _ (HW.out.below HX.out)).mono ?_; rintro e w1 ⟨rfl, hW1, hB1, hK1⟩; obtain ⟨c0, c1, c2, c3⟩ := cells_box (hK1 w.heap.size _ 25 (0, 0) (by omega) (by decide) (heap_alloc_new w _)); have HW1 := Lib.hid hW1; have HB1 := Lib.hid hB1; have HK1 := Lib.hid hK1
         have hb1 := HB.out.trans ((HY.out.trans hB1).mono hb)
         have y0 := keep_bel hb1 _ _ x0
         have y1 := keep_bel hb1 _ _ x1
         have y3 := keep_bel hb1 _ _ x3
         have y4 := keep_bel hb1 _ _ x4
         have HZ := Lib.hid hb1
         clear hW1 hB1 hK1 hb1)
      | (go_at_call 43; refine (HQ.out _ _ HV.out HZ.out HW1.out).mono ?_; rintro e w2 ⟨rfl, hW2, hB2, hK2⟩))
    go_end0
    exact ⟨rfl, hW2, HY.out.trans (HB1.out.trans hB2), (Keep.of HX.out).trans (HK1.out.trans hK2)⟩
  · have hlv : ∀ w, Calls Tryz.prog 40 #[.string ⟨#[78, 69, 71]⟩] w fun e w' => e = .returned (.int .i64 6) ∧ w' = w := level_any [78, 69, 71]
    have HP := Lib.hid (fun W h => put_any b l [45] W h (by simp; omega))
    have HQ := Lib.hid (fun v w h1 h2 h3 => hp 6 (by omega) w0 b (cat l [45]) v w hb h1 HT.out h2 h3 (by have := cat_len l [45]; simp at this; omega))
    rw [← cat_cat (l := l) (t := [45]) (by simp)]
    clear hp
    show Calls Tryz.prog 30 #[me b, .agg #[.string ⟨#[78, 69, 71]⟩, .int .u16 0, .string ⟨#[]⟩, .slice (some ⟨p, of, none⟩) 1 c]] w _
    have HX := Lib.hid (box_below w (Obj.cells #[Value.string ⟨#[78, 69, 71]⟩, Value.int .u16 0, Value.string ⟨#[]⟩, Value.slice (some ⟨p, of, none⟩) 1 c] 25))
    have HY := Lib.hid (HX.out.mono (Nat.le_of_lt hlt))
    unfold me at HP HQ ⊢
    go_enter Tryz.func30, Tryz.ntmps30
    go_wp2_with (first
      | (go_at_call 40; refine (hlv _).mono ?_; rintro e w1 ⟨rfl, rfl⟩)
      | (go_at_call 41; refine (HP.out _ (HW.out.below HX.out)).mono ?_; rintro e w1 ⟨rfl, hW1, hB1, hK1⟩; obtain ⟨c0, c1, c2, c3⟩ := cells_box (hK1 w.heap.size _ 25 (0, 0) (by omega) (by decide) (heap_alloc_new w _)); have HW1 := Lib.hid hW1; have HB1 := Lib.hid hB1; have HK1 := Lib.hid hK1
         have hb1 := HB.out.trans ((HY.out.trans hB1).mono hb)
         have y0 := keep_bel hb1 _ _ x0
         have y1 := keep_bel hb1 _ _ x1
         have y3 := keep_bel hb1 _ _ x3
         have y4 := keep_bel hb1 _ _ x4
         have HZ := Lib.hid hb1
         clear hW1 hB1 hK1 hb1)
      | (go_at_call 43; refine (HQ.out _ _ HV.out HZ.out HW1.out).mono ?_; rintro e w2 ⟨rfl, hW2, hB2, hK2⟩))
    go_end0
    exact ⟨rfl, hW2, HY.out.trans (HB1.out.trans hB2), (Keep.of HX.out).trans (HK1.out.trans hK2)⟩
set_option maxHeartbeats 4000000 in
theorem writes_bin (o : O2) (a1 a2 : RE) (hn1 : ∀ m ≤ 7, textR a1 m ≠ []) (hp1 : ∀ m ≤ 7, PartW a1 m) (hp2 : ∀ m ≤ 7, PartW a2 m) : Writes (.bin o a1 a2) := by
  intro w0 b l v w hb hv hT hB hW hlen
  have hlt := hW.lt
  obtain ⟨hn, p, of, sp, c, rfl, hsp, hl⟩ := hv
  obtain rfl := hsp (by simp)
  obtain ⟨X, hX⟩ : ∃ X, toEx a1 = X := ⟨_, rfl⟩
  obtain ⟨Y, hY⟩ : ∃ Y, toEx a2 = Y := ⟨_, rfl⟩
  rw [hX, hY] at hl
  obtain ⟨xo, xn, xs, xl⟩ := X
  obtain ⟨yo, yn, ys, yl⟩ := Y
  simp only [ListAt, CellsAt, and_true] at hl
  obtain ⟨⟨x0, x1, x2, x3, b', o', sp', c', x4, x5, x6⟩, y0, y1, y2, y3, b'', o'', sp'', c'', y4, y5, y6⟩ := hl
  have hv1 : ExV w0 (.agg #[.string ⟨xo.toArray⟩, .int .u16 (xn : Nat), .string ⟨xs.toArray⟩, .slice sp' xl.length c']) (toEx a1) := by rw [hX]; exact ⟨x2, b', o', sp', c', rfl, x5, x6⟩
  have hv2 : ExV w0 (.agg #[.string ⟨yo.toArray⟩, .int .u16 (yn : Nat), .string ⟨ys.toArray⟩, .slice sp'' yl.length c'']) (toEx a2) := by rw [hY]; exact ⟨y2, b'', o'', sp'', c'', rfl, y5, y6⟩
  obtain ⟨x, hx⟩ : ∃ x, xl.length = x := ⟨_, rfl⟩
  obtain ⟨y, hy⟩ : ∃ y, yl.length = y := ⟨_, rfl⟩
  rw [hx] at x4 hv1
  rw [hy] at y4 hv2
  rw [text_bin] at hlen ⊢
  simp only [List.length_append, List.length_cons] at hlen
  have hlv := level_any (txt2 o)
  have hrk : (rankL (txt2 o)).1 = rk2 o := by cases o <;> rfl
  rw [hrk] at hlv
  have hk4 := rk2_cases o
  have hq := fun v w h1 h2 h3 => hp1 (rk2 o) (by omega) w0 b l v w hb h1 hT h2 h3 (by omega)
  have hr := fun W h => put_any b (cat l (textR a1 (rk2 o))) (txt2 o) W h (by have := cat_len l (textR a1 (rk2 o)); omega)
  have hs := fun v w h1 h2 h3 => hp2 (rk2 o + 1) (by omega) w0 b (cat (cat l (textR a1 (rk2 o))) (txt2 o)) v w hb h1 hT h2 h3 (by have := cat_len (cat l (textR a1 (rk2 o))) (txt2 o); have := cat_len l (textR a1 (rk2 o)); omega)
  rw [← cat_cat (l := l) (hn1 (rk2 o) (by omega)), ← cat_cat (l := cat l (textR a1 (rk2 o))) (t := txt2 o) (by cases o <;> simp [txt2])]
  show Calls Tryz.prog 30 #[me b, .agg #[.string ⟨(txt2 o).toArray⟩, .int .u16 0, .string ⟨#[]⟩, .slice (some ⟨p, of, none⟩) 2 c]] w _
  obtain ⟨T, hT'⟩ : ∃ T, txt2 o = T := ⟨_, rfl⟩
  obtain ⟨k, hk⟩ : ∃ k, rk2 o = k := ⟨_, rfl⟩
  rw [hT', hk] at hlv hr hs ⊢
  rw [hk] at hq hk4
  push_cast at hs
  have HV1 := Lib.hid hv1
  have HV2 := Lib.hid hv2
  have HB := Lib.hid hB
  have HW := Lib.hid hW
  have HQ := Lib.hid hq
  have HR := Lib.hid hr
  have HS := Lib.hid hs
  have k7 : ((k : Int) == 7) = false := by rw [beq_eq_false_iff_ne]; omega
  have k3 : ((k : Int) == 3) = false := by rw [beq_eq_false_iff_ne]; omega
  have k6 : ((k : Int) == 6) = false := by rw [beq_eq_false_iff_ne]; omega
  have kw : IntKind.i64.wrap ((k : Int) + 1) = ((k + 1 : Nat) : Int)  := by rw [IntWalk.i64_in _ (by omega)]; simp
  have HX := Lib.hid (box_below w (Obj.cells #[Value.string ⟨T.toArray⟩, Value.int .u16 0, Value.string ⟨#[]⟩, Value.slice (some ⟨p, of, none⟩) 2 c] 25))
  have HY := Lib.hid (HX.out.mono (Nat.le_of_lt hlt))
  have hbx := HB.out.trans (HY.out.mono hb)
  have z0 := keep_bel hbx _ _ x0
  have z1 := keep_bel hbx _ _ x1
  have z3 := keep_bel hbx _ _ x3
  have z4 := keep_bel hbx _ _ x4
  have HX0 := Lib.hid hbx
  clear hsp hX hY hx hy hB hW hT x5 x6 y5 y6 hv1 hv2 hq hr hs hk4 hrk hT' hk hp1 hp2 hn1 hlen hbx
  unfold me at HQ HR HS ⊢
  go_enter Tryz.func30, Tryz.ntmps30
  go_wp2_with (first
    | (go_at_call 40; refine (hlv _).mono ?_; rintro e w1 ⟨rfl, rfl⟩)
    | (go_at_call 43; (with_reducible refine (HQ.out _ _ HV1.out HX0.out (HW.out.below HX.out)).mono ?_); rintro e w1 ⟨rfl, hW1, hB1, hK1⟩
       have hb1 := hK1 w.heap.size _ 25 (0, 0) (by omega) (by decide) (heap_alloc_new w _)
       obtain ⟨c0, c1, c2, c3⟩ := cells_box hb1
       have HN1 := Lib.hid hb1
       have HW1 := Lib.hid hW1
       have HB1 := Lib.hid hB1
       have HK1 := Lib.hid hK1
       clear hW1 hB1 hK1 hb1)
    | (go_at_call 41; (with_reducible refine (HR.out _ HW1.out).mono ?_); rintro e w2 ⟨rfl, hW2, hB2, hK2⟩
       obtain ⟨d0, d1, d2, d3⟩ := cells_box (hK2 w.heap.size _ 25 (0, 0) (by omega) (by decide) HN1.out)
       have hb2 := HB.out.trans ((HY.out.trans (HB1.out.trans hB2)).mono hb)
       have u0 := keep_bel hb2 _ _ y0
       have u1 := keep_bel hb2 _ _ y1
       have u3 := keep_bel hb2 _ _ y3
       have u4 := keep_bel hb2 _ _ y4
       have HZ := Lib.hid hb2
       have HW2 := Lib.hid hW2
       have HB2 := Lib.hid hB2
       have HK2 := Lib.hid hK2
       clear hW2 hB2 hK2 hb2)
    | (go_at_call 43; (with_reducible refine (HS.out _ _ HV2.out HZ.out HW2.out).mono ?_); rintro e w3 ⟨rfl, hW3, hB3, hK3⟩))
  go_end0
  exact ⟨rfl, hW3, HY.out.trans (HB1.out.trans (HB2.out.trans hB3)), (Keep.of HX.out).trans (HK1.out.trans (HK2.out.trans hK3))⟩
theorem writes : ∀ r : RE, okR r = true → Writes r
  | .num n, h => writes_leaf (.num n) h rfl
  | .nam s, h => writes_leaf (.nam s) h rfl
  | .here, h => writes_leaf .here h rfl
  | .un o a, h => by
    have ha : okR a = true := by simpa [okR] using h
    exact writes_un o a fun m hm => part_any a (text_ne1 a ha) m hm (writes a ha)
  | .bin o a b, h => by
    have hab : okR a = true ∧ okR b = true := by simpa [okR] using h
    exact writes_bin o a b (fun m hm => text_ne a hab.1 m hm) (fun m hm => part_any a (text_ne1 a hab.1) m hm (writes a hab.1)) (fun m hm => part_any b (text_ne1 b hab.2) m hm (writes b hab.2))
end Go.Proofs.YtaoeipbofhkkcaaGreatDoor
namespace Go.Proofs.YtaoeipbofhkkcaaGreatDoor
open Go.RowKit Go.Proofs.NumMath

/-- a tree's text, or that it is not right -/
def ShX (e : Ex) (x : List UInt8 × Nat) : Prop := (rightX 1 e = false ∧ x = ([], 2)) ∨ ∃ r, toEx r = e ∧ okR r = true ∧ rightX 1 e = true ∧ x = (textR r 1, 0)
theorem ShX.some (e : Ex) : ∃ x, ShX e x := by
  cases h : rightX 1 e
  · exact ⟨_, .inl ⟨h, rfl⟩⟩
  · obtain ⟨r, h1, h2, _⟩ := right_toEx e 1 h
    exact ⟨_, .inr ⟨r, h1, h2, h, rfl⟩⟩
theorem fresh_wb (w : World) : WB w.heap.size [] (w.alloc (Obj.cells #[.pointer none, .slice none 0 0] 63)) := by
  refine ⟨_, _, .inl rfl, heap_alloc_new w _, ?_⟩
  exact ⟨rfl, .inl ⟨rfl, rfl⟩⟩
set_option maxHeartbeats 4000000 in
theorem pShow_any (v : Value) (e : Ex) (x : List UInt8 × Nat) (w : World) (hs : shortX e = true) (hv : ExV w v e) (hT : Tab16 w) (hx : ShX e x) (hlen : x.1.length < 1000000) : Calls Tryz.prog 14 #[v] w fun r w' =>
    r = .returned (.tuple #[.string ⟨x.1.toArray⟩, .int .i64 (x.2 : Nat)]) ∧ Below w.heap.size w w' := by
  have hR : ∀ W, Below w.heap.size w W → Calls Tryz.prog 24 #[v] W fun r w' => r = .returned (.int .i64 (rightK e : Nat)) ∧ Below W.heap.size W w' := fun W hW => pRight_any v e W hs (hv.below hW)
  have HV := Lib.hid hv
  obtain ⟨op, n, name, sub⟩ := e
  obtain ⟨hn, b, o, sp, c, rfl, hsp, hll⟩ := hv
  obtain ⟨m, hm⟩ : ∃ m, sub.length = m := ⟨_, rfl⟩
  rw [hm] at hR ⊢
  have HM := Lib.hid hm
  have HT := Lib.hid hT
  clear hsp hll hm hT
  obtain ⟨c0, c1, c2, c3⟩ := cells_box (heap_alloc_new w (Obj.cells #[Value.string ⟨op.toArray⟩, Value.int .u16 n, Value.string ⟨name.toArray⟩, Value.slice sp m c] 25))
  have HB0 := Lib.hid (box_below w (Obj.cells #[Value.string ⟨op.toArray⟩, Value.int .u16 n, Value.string ⟨name.toArray⟩, Value.slice sp m c] 25))
  have HG := Lib.hid (heap_alloc_new w (Obj.cells #[Value.string ⟨op.toArray⟩, Value.int .u16 n, Value.string ⟨name.toArray⟩, Value.slice sp m c] 25))
  clear c0 c1 c2 c3
  rcases hx with ⟨h1, rfl⟩ | ⟨r, h1, h2, h3, rfl⟩
  · have hk : rightK (.mk op n name sub) = 2 := by unfold rightK; rw [h1]; rfl
    rw [hk] at hR
    have HR := Lib.hid hR
    clear hk hR h1 hs
    go_enter Tryz.func14, Tryz.ntmps14
    go_wp2_with (go_at_call 24; refine (HR.out _ HB0.out).mono ?_; rintro e w2 ⟨rfl, hB⟩)
    go_ret2
    exact ⟨rfl, HB0.out.trans (hB.mono HB0.out.size)⟩
  · have hk : rightK (.mk op n name sub) = 0 := by unfold rightK; rw [h3]; rfl
    rw [hk] at hR
    have HR := Lib.hid hR
    have hv' := HV.out
    rw [HM.out, ← h1] at hv'
    have HV' := Lib.hid hv'
    have hne := text_ne1 r h2
    have HW := Lib.hid (writes r h2)
    have HL := Lib.hid hlen
    clear hk hR h1 h3 hs hlen hv'
    go_enter Tryz.func14, Tryz.ntmps14
    go_wp2_with (first
      | (go_at_call 24; refine (HR.out _ HB0.out).mono ?_; rintro e w2 ⟨rfl, hB⟩
         obtain ⟨d0, d1, d2, d3⟩ := cells_box (below_heap (box_below w2 (Obj.cells #[.pointer none, .slice none 0 0] 63)) (below_heap hB HG.out))
         have HB2 := Lib.hid (HB0.out.trans (hB.mono HB0.out.size))
         have HB3 := Lib.hid (HB2.out.trans ((box_below w2 (Obj.cells #[.pointer none, .slice none 0 0] 63)).mono HB2.out.size))
         clear hB)
      | (go_at_call 30; refine (HW.out w w2.heap.size [] _ _ HB2.out.size HV'.out HT.out HB3.out (fresh_wb w2) (by have := HL.out; simp; omega)).mono ?_; rintro e w3 ⟨rfl, hW3, hB4, _⟩
         have HW3 := Lib.hid (show WB w2.heap.size (textR r 1) w3 from hW3)
         have HB5 := Lib.hid (HB2.out.trans ((((Below.refl w2.heap.size w2).alloc (Nat.le_refl _) (Obj.cells #[.pointer none, .slice none 0 0] 63)).trans hB4).mono HB2.out.size))
         clear hW3 hB4)
      | (go_at_call 31; refine (wtext_any _ _ _ HW3.out hne (by have := HL.out; omega)).mono ?_; rintro e w4 ⟨rfl, hB6⟩))
    go_ret2
    exact ⟨rfl, HB5.out.trans (hB6.mono HB2.out.size)⟩
end Go.Proofs.YtaoeipbofhkkcaaGreatDoor
