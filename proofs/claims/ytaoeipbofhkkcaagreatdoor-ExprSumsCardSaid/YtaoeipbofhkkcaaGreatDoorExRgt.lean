/- What the document's right and Right of expressions do when they are called; the texts in a tree are shorter than 140737488355328 bytes. -/
import Derived.Test.YtaoeipbofhkkcaaGreatDoorExRk
import Derived.Test.YtaoeipbofhkkcaaGreatDoorExm
import Derived.Test.YtaoeipbofhkkcaaGreatDoorNumTexts
import Derived.BigQuiet
import Derived.Deep.RegionWith
namespace Go.Proofs.YtaoeipbofhkkcaaGreatDoor
open Go.RowKit Go.Proofs.NumMath

mutual
/-- the texts in a tree are short -/
def shortX : Ex → Bool
  | .mk op _ name sub => decide (op.length < 140737488355328) && decide (name.length < 140737488355328) && decide (sub.length < 140737488355328) && shortS sub
def shortS : List Ex → Bool
  | [] => true
  | e :: l => shortX e && shortS l
end
theorem shortS_mem : ∀ {l : List Ex} {e : Ex}, shortS l = true → e ∈ l → shortX e = true
  | x :: l, e, h, he => by
    simp only [shortS, Bool.and_eq_true] at h
    rcases List.mem_cons.1 he with rfl | he
    · exact h.1
    · exact shortS_mem h.2 he
theorem rightS_all : ∀ (l : List Ex) (d : Nat), rightS d l = l.all (rightX d)
  | [], d => by simp [rightS]
  | e :: l, d => by simp only [rightS, List.all_cons, rightS_all l d]

/-- what is asked of an expression, its parts aside -/
def headX (d : Nat) (op : List UInt8) (n : Nat) (name : List UInt8) (m : Nat) : Bool :=
  decide (d ≤ 24) && decide ((rankL op).1 ≠ 0) && decide (m = (rankL op).2) && (if op = [35] then decide (n ≤ 65535) else decide (n = 0)) &&
      (if op = [110] then nameL name && decide (upL name = name) && !wordB name else decide (name = []))
theorem right_head (d : Nat) (op : List UInt8) (n : Nat) (name : List UInt8) (sub : List Ex) : rightX d (.mk op n name sub) = (headX d op n name sub.length && sub.all (rightX (d + 1))) := by
  rw [rightX, rightS_all]; rfl
theorem bsize (l : List UInt8) : (⟨l.toArray⟩ : ByteArray).size = l.length := by simp [ByteArray.size]
theorem cell_at3 {W : World} {k : Nat} {u0 u1 u2 u3 : Value} {t : TypeId} {fr : Nat × Nat} (h : W.heap[k]? = some (.cells #[u0, u1, u2, u3] t fr)) : W.cell? ⟨k, 3, none⟩ = some u3 := by simp [World.cell?, h]
theorem cell_at2 {W : World} {k : Nat} {u0 u1 u2 u3 : Value} {t : TypeId} {fr : Nat × Nat} (h : W.heap[k]? = some (.cells #[u0, u1, u2, u3] t fr)) : W.cell? ⟨k, 2, none⟩ = some u2 := by simp [World.cell?, h]
theorem box_at2 (w : World) (u0 u1 u2 u3 : Value) : (w.alloc (Obj.cells #[u0, u1, u2, u3] 25)).cell? ⟨w.heap.size, 2, none⟩ = some u2 := cell_at2 (heap_alloc_new w _)
theorem box_at3 (w : World) (u0 u1 u2 u3 : Value) : (w.alloc (Obj.cells #[u0, u1, u2, u3] 25)).cell? ⟨w.heap.size, 3, none⟩ = some u3 := cell_at3 (heap_alloc_new w _)
theorem keep_bel {W W' : World} (h : Below W.heap.size W W') : ∀ p u, W.cell? p = some u → W'.cell? p = some u := fun p _ hu => (h.cell (World.block_lt_of_cell? W p hu)).trans hu
theorem box_below (w : World) (o : Obj) : Below w.heap.size w (w.alloc o) := (Below.refl _ w).alloc (Nat.le_refl _) o
theorem isEmpty_mk {l : List UInt8} (h : l ≠ []) : l.isEmpty = false := by cases l <;> simp_all
set_option maxHeartbeats 4000000 in
theorem right_step (op : List UInt8) (n : Nat) (name : List UInt8) (sub : List Ex) (d : Nat) (v : Value) (w : World) (hs : shortX (.mk op n name sub) = true) (hd : d ≤ 25) (hv : ExV w v (.mk op n name sub))
    (ih : ∀ (e : Ex) (v : Value) (w : World), e ∈ sub → ExV w v e → d + 1 ≤ 25 → Calls Tryz.prog 38 #[v, .int .i64 ((d : Int) + 1)] w fun r w' => r = .returned (.bool (rightX (d + 1) e)) ∧ Below w.heap.size w w') :
    Calls Tryz.prog 38 #[v, .int .i64 d] w fun r w' => r = .returned (.bool (rightX d (.mk op n name sub))) ∧ Below w.heap.size w w' := by
  obtain ⟨hn, b, o, sp, c, rfl, hsp, hl⟩ := hv
  have hr := rank_any op
  rw [right_head]
  have hsub : sub.length < 140737488355328 := by
    simp only [shortX, Bool.and_eq_true, decide_eq_true_eq] at hs; exact hs.1.2
  have hname : name.length < 140737488355328 := by
    simp only [shortX, Bool.and_eq_true, decide_eq_true_eq] at hs; exact hs.1.1.2
  clear hs
  by_cases hd24 : d ≤ 24
  case neg =>
    have hf : headX d op n name sub.length = false := by simp [headX, hd24]
    rw [hf]
    go_enter Tryz.func38, Tryz.ntmps38
    go_wp2_with (first
        | (go_at_call 54; refine (hr _).mono ?_; rintro e w' ⟨rfl, rfl⟩))
    go_ret
    exact ⟨rfl, box_below _ _⟩
  by_cases h1 : (rankL op).1 = 0
  · have hf : headX d op n name sub.length = false := by simp [headX, h1]
    rw [hf]
    have hz : (((rankL op).1 : Nat) : Int) = 0 := by rw [h1]; rfl
    go_enter Tryz.func38, Tryz.ntmps38
    go_wp2_with (first
        | (go_at_call 54; refine (hr _).mono ?_; rintro e w' ⟨rfl, rfl⟩))
    go_ret
    exact ⟨rfl, box_below _ _⟩
  by_cases h2 : sub.length = (rankL op).2
  case neg =>
    have hf : headX d op n name sub.length = false := by simp [headX, h2]
    rw [hf]
    have hz : ((((rankL op).1 : Nat) : Int) == 0) = false := by rw [beq_eq_false_iff_ne]; omega
    have hz2 : ((sub.length : Int) == (((rankL op).2 : Nat) : Int)) = false := by rw [beq_eq_false_iff_ne]; omega
    go_enter Tryz.func38, Tryz.ntmps38
    go_wp2_with (first
        | (go_at_call 54; refine (hr _).mono ?_; rintro e w' ⟨rfl, rfl⟩))
    go_ret
    exact ⟨rfl, box_below _ _⟩
  have hz : ((((rankL op).1 : Nat) : Int) == 0) = false := by rw [beq_eq_false_iff_ne]; omega
  have hz2 : ((sub.length : Int) == (((rankL op).2 : Nat) : Int)) = true := by rw [beq_iff_eq]; omega
  by_cases h35 : op = [35]
  · subst h35
    obtain rfl : sub = [] := List.length_eq_zero_iff.1 h2
    clear hr hz hz2 h1 h2
    have hr : ∀ w, Calls Tryz.prog 54 #[.string ⟨#[35]⟩] w fun e w' => e = .returned (.tuple #[.int .i64 7, .int .i64 0]) ∧ w' = w := rank_any [35]
    by_cases hnm : name = []
    · subst hnm
      have hf : headX d [35] n [] 0 = true := by simp [headX, hd24, hn, rankL]
      rw [List.length_nil, hf]
      go_enter Tryz.func38, Tryz.ntmps38
      go_wp2_with (first
          | (go_at_call 54; refine (hr _).mono ?_; rintro e w' ⟨rfl, rfl⟩))
      go_loopw [7] (fun i wr => i = .int .i64 0 ∧ Below w.heap.size w wr) (fun _ _ => 0)
      case atStart => exact ⟨rfl, box_below _ _⟩
      case round =>
        obtain ⟨rfl, hB⟩ := hrel
        go_wp2
        go_ret
        exact ⟨rfl, hB⟩
    · have hf : headX d [35] n name 0 = false := by simp [headX, hnm]
      rw [List.length_nil, hf]
      have hem := isEmpty_mk hnm
      go_enter Tryz.func38, Tryz.ntmps38
      go_wp2_with (first
          | (go_at_call 54; refine (hr _).mono ?_; rintro e w' ⟨rfl, rfl⟩))
      go_ret
      exact ⟨rfl, box_below _ _⟩
  have b35 : (op == [35]) = false := by rw [beq_eq_false_iff_ne]; exact h35
  by_cases hn0 : n = 0
  case neg =>
    have hf : headX d op n name sub.length = false := by simp [headX, hn0, h35]
    rw [hf]
    have hnz : ((n : Int) != 0) = true := by rw [bne_iff_ne]; omega
    go_enter Tryz.func38, Tryz.ntmps38
    go_wp2_with (first
        | (go_at_call 54; refine (hr _).mono ?_; rintro e w' ⟨rfl, rfl⟩))
    go_ret
    exact ⟨rfl, box_below _ _⟩
  subst hn0
  by_cases h110 : op = [110]
  · subst h110
    obtain rfl : sub = [] := List.length_eq_zero_iff.1 h2
    clear hr hz hz2 h1 h2 h35 b35
    have hr : ∀ w, Calls Tryz.prog 54 #[.string ⟨#[110]⟩] w fun e w' => e = .returned (.tuple #[.int .i64 7, .int .i64 0]) ∧ w' = w := rank_any [110]
    have hsz := bsize name
    have hN := fun w => (rname_any ⟨name.toArray⟩ (by omega) w).mono fun _ _ h => And.intro h.1 h.2.symm
    have hU := rupper_any ⟨name.toArray⟩ (by omega)
    dsimp only at hN hU
    have hW := rword_any name
    rw [List.length_nil]
    by_cases hn1 : nameL name = true
    · rw [hn1] at hN
      by_cases hu1 : upL name = name
      · rw [hu1] at hU
        obtain ⟨X, hX⟩ : ∃ X, wordB name = X := ⟨_, rfl⟩
        rw [hX] at hW
        cases X
        · have hf : headX d [110] 0 name 0 = true := by simp [headX, hn1, hu1, hX, hd24, rankL]
          rw [hf]
          clear hsp hl hsub ih
          go_enter Tryz.func38, Tryz.ntmps38
          go_wp2_with (first
              | (go_at_call 54; refine (hr _).mono ?_; rintro e w' ⟨rfl, rfl⟩))
          have hB := box_below w (Obj.cells #[Value.string ⟨#[110]⟩, Value.int .u16 0, Value.string ⟨name.toArray⟩, Value.slice sp 0 c] 25)
          have c2 := box_at2 w (Value.string ⟨#[110]⟩) (Value.int .u16 0) (Value.string ⟨name.toArray⟩) (Value.slice sp 0 c)
          generalize w.alloc (Obj.cells #[Value.string ⟨#[110]⟩, Value.int .u16 0, Value.string ⟨name.toArray⟩, Value.slice sp 0 c] 25) = wr at hB c2 ⊢
          first | (go_region_with (first
            | (go_at_call 55; refine (hN _).mono ?_; rintro e w' ⟨rfl, rfl⟩)
            | (go_at_call 56; refine (hU _).mono ?_; rintro e w1 ⟨rfl, hB1⟩; have d2 := keep_bel hB1 _ _ c2)
            | (go_at_call 57; refine (hW _).mono ?_; rintro e w' ⟨rfl, rfl⟩))) | fail
          all_goals
            have hB2 := hB.drew.trans (hB1.mono (show w.heap.size ≤ wr.drew.heap.size from hB.size))
            clear hB1 d2 hB c2 hN hU hW
            go_wp2
            go_loopw [7] (fun i w2 => i = .int .i64 0 ∧ Below w.heap.size w w2) (fun _ _ => 0)
            case atStart => exact ⟨rfl, by first | exact hB2 | exact hB2.drew⟩
            case round =>
              obtain ⟨rfl, hB3⟩ := hrel
              go_wp2
              go_ret
              exact ⟨rfl, hB3⟩
        · have hf : headX d [110] 0 name 0 = false := by simp [headX, hX]
          rw [hf]
          clear hsp hl hsub ih
          go_enter Tryz.func38, Tryz.ntmps38
          go_wp2_with (first
              | (go_at_call 54; refine (hr _).mono ?_; rintro e w' ⟨rfl, rfl⟩))
          have hB := box_below w (Obj.cells #[Value.string ⟨#[110]⟩, Value.int .u16 0, Value.string ⟨name.toArray⟩, Value.slice sp 0 c] 25)
          have c2 := box_at2 w (Value.string ⟨#[110]⟩) (Value.int .u16 0) (Value.string ⟨name.toArray⟩) (Value.slice sp 0 c)
          generalize w.alloc (Obj.cells #[Value.string ⟨#[110]⟩, Value.int .u16 0, Value.string ⟨name.toArray⟩, Value.slice sp 0 c] 25) = wr at hB c2 ⊢
          first | (go_region_with (first
            | (go_at_call 55; refine (hN _).mono ?_; rintro e w' ⟨rfl, rfl⟩)
            | (go_at_call 56; refine (hU _).mono ?_; rintro e w1 ⟨rfl, hB1⟩; have d2 := keep_bel hB1 _ _ c2)
            | (go_at_call 57; refine (hW _).mono ?_; rintro e w' ⟨rfl, rfl⟩))) | fail
          all_goals
            have hB2 := hB.drew.trans (hB1.mono (show w.heap.size ≤ wr.drew.heap.size from hB.size))
            clear hB1 d2 hB c2 hN hU hW
            go_wp2
            go_ret
            exact ⟨rfl, by first | exact hB2 | exact hB2.drew⟩
      · have hf : headX d [110] 0 name 0 = false := by simp [headX, hu1]
        rw [hf]
        clear hsp hl hsub ih
        have hu2 : (upL name == name) = false := by rw [beq_eq_false_iff_ne]; exact hu1
        have hu3 : (upL name != name) = true := by rw [bne_iff_ne]; exact hu1
        go_enter Tryz.func38, Tryz.ntmps38
        go_wp2_with (first
            | (go_at_call 54; refine (hr _).mono ?_; rintro e w' ⟨rfl, rfl⟩))
        have hB := box_below w (Obj.cells #[Value.string ⟨#[110]⟩, Value.int .u16 0, Value.string ⟨name.toArray⟩, Value.slice sp 0 c] 25)
        have c2 := box_at2 w (Value.string ⟨#[110]⟩) (Value.int .u16 0) (Value.string ⟨name.toArray⟩) (Value.slice sp 0 c)
        generalize w.alloc (Obj.cells #[Value.string ⟨#[110]⟩, Value.int .u16 0, Value.string ⟨name.toArray⟩, Value.slice sp 0 c] 25) = wr at hB c2 ⊢
        first | (go_region_with (first
          | (go_at_call 55; refine (hN _).mono ?_; rintro e w' ⟨rfl, rfl⟩)
          | (go_at_call 56; refine (hU _).mono ?_; rintro e w1 ⟨rfl, hB1⟩; have d2 := keep_bel hB1 _ _ c2)
          | (go_at_call 57; refine (hW _).mono ?_; rintro e w' ⟨rfl, rfl⟩))) | fail
        all_goals
          have hB2 := hB.drew.trans (hB1.mono (show w.heap.size ≤ wr.drew.heap.size from hB.size))
          clear hB1 d2 hB c2 hN hU hW
          go_wp2
          go_ret
          exact ⟨rfl, by first | exact hB2 | exact hB2.drew⟩
    · have hf : headX d [110] 0 name 0 = false := by simp [headX, hn1]
      rw [hf]
      rw [Bool.eq_false_iff.2 hn1] at hN
      go_enter Tryz.func38, Tryz.ntmps38
      go_wp2_with (first
          | (go_at_call 54; refine (hr _).mono ?_; rintro e w' ⟨rfl, rfl⟩))
      clear hsp hl hsub ih
      have hB := box_below w (Obj.cells #[Value.string ⟨#[110]⟩, Value.int .u16 0, Value.string ⟨name.toArray⟩, Value.slice sp 0 c] 25)
      have c2 := box_at2 w (Value.string ⟨#[110]⟩) (Value.int .u16 0) (Value.string ⟨name.toArray⟩) (Value.slice sp 0 c)
      generalize w.alloc (Obj.cells #[Value.string ⟨#[110]⟩, Value.int .u16 0, Value.string ⟨name.toArray⟩, Value.slice sp 0 c] 25) = wr at hB c2 ⊢
      go_quiet ((go_at_call 55; exact Calls.quiet_of_same (hN _)))
      go_wp2
      go_ret
      exact ⟨rfl, below_drewN hB _⟩
  · have b110 : (op == [110]) = false := by rw [beq_eq_false_iff_ne]; exact h110
    by_cases hnm : name = []
    case neg =>
      have hf : headX d op 0 name sub.length = false := by simp [headX, hnm, h110]
      rw [hf]
      have hem := isEmpty_mk hnm
      go_enter Tryz.func38, Tryz.ntmps38
      go_wp2_with (first
          | (go_at_call 54; refine (hr _).mono ?_; rintro e w' ⟨rfl, rfl⟩))
      go_ret
      exact ⟨rfl, box_below _ _⟩
    subst hnm
    have hf : headX d op 0 [] sub.length = true := by simp [headX, hd24, h1, h2, h35, h110]
    rw [hf, Bool.true_and]
    obtain ⟨m, hm⟩ : ∃ m, (rankL op).2 = m := ⟨_, rfl⟩
    rw [hm] at h2 hz2
    have HM := Lib.hid hm
    have H2 := Lib.hid h2
    have HL := Lib.hid hl
    have HI := Lib.hid ih
    have hr2 : (((rankL op).2 : Nat) : Int) = m := by rw [hm]
    rw [h2] at hsub hsp hz2
    rw [h2]
    clear hm h2 hl ih h1
    go_enter Tryz.func38, Tryz.ntmps38
    go_wp2_with (first
        | (go_at_call 54; refine (hr _).mono ?_; rintro e w' ⟨rfl, rfl⟩))
    go_loopw [7] (fun i wr => ∃ k : Nat, k ≤ m ∧ i = .int .i64 k ∧ Below w.heap.size w wr ∧ Hid (wr.cell? ⟨w.heap.size, 3, none⟩ = some (.slice sp m c)) ∧ Hid (∀ x ∈ sub.take k, rightX (d + 1) x = true)) (fun i _ => m - (intOf i).toNat)
    case atStart => exact ⟨0, by omega, rfl, box_below _ _, Lib.hid (box_at3 _ _ _ _ _), Lib.hid (by simp)⟩
    case round =>
      obtain ⟨k, hk, rfl, hB, HC3, HQ⟩ := hrel
      by_cases hlt : k < m
      · obtain rfl := hsp (by omega)
        obtain ⟨e, he⟩ : ∃ e, sub[k]? = some e := ⟨_, List.getElem?_eq_getElem (by rw [H2.out]; exact hlt)⟩
        obtain ⟨v0, v1, v2, v3, x0, x1, x2, x3, hev⟩ := (CellsAt.keep (keep_bel hB) _ _ _ (ListAt.at sub b o k e HL.out he)).val
        have hi := HI.out e _ wr (List.mem_of_getElem? he) hev (by omega)
        have hc3 := HC3.out
        have HE := Lib.hid he
        have HV := Lib.hid hev
        clear he hev
        obtain ⟨X, hX⟩ : ∃ X, rightX (d + 1) e = X := ⟨_, rfl⟩
        rw [hX] at hi
        have HX := Lib.hid hX
        clear hX
        cases X
        · go_wp2_with (first
            | (go_at_call 38; refine hi.mono ?_; rintro r w2 ⟨rfl, hB2⟩))
          go_ret
          refine ⟨ret_bool ?_, hB.trans (hB2.mono hB.size)⟩
          symm
          rw [Bool.eq_false_iff]
          intro h
          rw [List.all_eq_true] at h
          have := h e (List.mem_of_getElem? HE.out)
          rw [HX.out] at this
          cases this
        · go_wp2_with (first
            | (go_at_call 38; refine hi.mono ?_; rintro r w2 ⟨rfl, hB2⟩))
          refine ⟨⟨k + 1, by omega, by go_num, hB.trans (hB2.mono hB.size), Lib.hid (keep_bel hB2 _ _ hc3), Lib.hid ?_⟩, by simp [intOf]; omega⟩
          rw [List.take_add_one, HE.out]
          intro y hy
          rcases List.mem_append.1 hy with hy | hy
          · exact HQ.out y hy
          · obtain rfl : y = e := by simpa using hy
            exact HX.out
      · obtain rfl : k = m := by omega
        go_wp2
        go_ret
        refine ⟨ret_bool ?_, hB⟩
        symm
        have := HQ.out
        rw [List.take_of_length_le (by rw [H2.out]; exact Nat.le_refl _)] at this
        rw [List.all_eq_true]
        exact this
end Go.Proofs.YtaoeipbofhkkcaaGreatDoor
