/- What the program's Read and the document's answer: the instruction at the begin of a row of bytes, or why there is none; the program's tables hold what its text says, the row is short. -/
import Derived.Test.YtlpbomdkcofhhaaDoorIsBytes
import Derived.StillTailTactics
namespace Go.Proofs.YtlpbomdkcofhhaaDoor
open Go.RowKit

/-- the number behind an opcode, in an instruction of a size -/
def numS (s : Nat) (r : List Nat) : Nat := if s = 1 then 0 else if s = 2 then r.getD 0 0 else r.getD 0 0 + r.getD 1 0 * 256
/-- the opcode, the number, the size and the kind of what a row of bytes begins with -/
def readL (l : List Nat) : Nat × Nat × Nat × Nat :=
  match l with
  | [] => (0, 0, 0, 2)
  | x :: r => if sizeF (formL x) = 0 then (0, 0, 0, 8) else if r.length + 1 < sizeF (formL x) then (0, 0, 0, 2) else (x, numS (sizeF (formL x)) r, sizeF (formL x), 0)
abbrev insV (op n : Nat) : Value := .agg #[.int .u8 (op : Nat), .int .u16 (n : Nat)]
theorem two_set {W : World} {k : Nat} {u0 u1 : Value} {t : TypeId} {fr : Nat × Nat} (h : W.heap[k]? = some (.cells #[u0, u1] t fr)) (a b : Value) :
    ((W.setCell ⟨k, 0, none⟩ a).setCell ⟨k, 1, none⟩ b).heap[k]? = some (.cells #[a, b] t fr) := by
  have set_heap : ∀ {W : World} {cs : Array Value}, W.heap[k]? = some (.cells cs t fr) → ∀ (j : Nat) (v : Value), (W.setCell ⟨k, j, none⟩ v).heap[k]? = some (.cells (cs.setIfInBounds j v) t fr) := fun {W cs} h j v => by
    have hk := lt_of_block h
    simp [World.setCell, Array.getElem?_modify, h]
  exact set_heap (set_heap h 0 a) 1 b
theorem two {w : World} {k : Nat} {u0 u1 : Value} {t : TypeId} (h : w.heap[k]? = some (.cells #[u0, u1] t (0, 0))) :
    (w.cell? ⟨k, 0, none⟩ = some u0 ∧ w.cell? ⟨k, 1, none⟩ = some u1) ∧ (w.frozen? ⟨k, 0, none⟩ = false ∧ w.frozen? ⟨k, 1, none⟩ = false) := by
  simp [World.cell?, World.frozen?, h]
theorem resI {fn : Func} {p q r k : Nat} {v0 v1 x y : Value} {tmps : Array Value} {W : World} (h : fn.results = #[.cell p 35, .tmp q, .tmp r]) (hp : tmps.getD p undef = .pointer (some ⟨k, 0, none⟩)) (hq : tmps.getD q undef = x) (hr : tmps.getD r undef = y)
    (k0 : W.cell? ⟨k, 0, none⟩ = some v0) (k1 : W.cell? ⟨k, 1, none⟩ = some v1) : (results fn tmps).run Tryd.prog W = .ok (.tuple #[.agg #[v0, v1], x, y]) W := by
  simp only [Array.getD_eq_getD_getElem?] at hp hq hr
  simp only [results, h]
  simp [hp, hq, hr, go_sem, k0, k1]
theorem finI {fn : Func} {R : Ending → World → Prop} {p q r k : Nat} {v0 v1 x y : Value} {t : TypeId} {a : Act} {W : World} (h : fn.results = #[.cell p 35, .tmp q, .tmp r]) (hp : a.tmps.getD p undef = .pointer (some ⟨k, 0, none⟩)) (hq : a.tmps.getD q undef = x) (hr : a.tmps.getD r undef = y)
    (hb : W.heap[k]? = some (.cells #[v0, v1] t (0, 0))) (hd : a.defers = []) (hR : R (.returned (.tuple #[.agg #[v0, v1], x, y])) W) : bodyPost Tryd.prog fn R .ret a W :=
  have ⟨k0, k1⟩ := cells_ins hb
  bodyPost_ret (resI h hp hq hr k0 k1) hd hR
theorem finJ {fn : Func} {p q r : Nat} {u0 u1 v0 v1 x y : Value} {t : TypeId} {a : Act} {w W : World} (h : fn.results = #[.cell p 35, .tmp q, .tmp r]) (hp : a.tmps.getD p undef = .pointer (some ⟨w.heap.size, 0, none⟩)) (hq : a.tmps.getD q undef = x) (hr : a.tmps.getD r undef = y)
    (hb : W.heap[w.heap.size]? = some (.cells #[u0, u1] t (0, 0))) (hB : Below w.heap.size w W) (hd : a.defers = []) :
    bodyPost Tryd.prog fn (fun e w' => e = .returned (.tuple #[.agg #[v0, v1], x, y]) ∧ Below w.heap.size w w') .ret a ((W.setCell ⟨w.heap.size, 0, none⟩ v0).setCell ⟨w.heap.size, 1, none⟩ v1) :=
  finI h hp hq hr (two_set hb v0 v1) hd ⟨rfl, (hB.setCell (p := ⟨w.heap.size, 0, none⟩) (Nat.le_refl _) _).setCell (p := ⟨w.heap.size, 1, none⟩) (Nat.le_refl _) _⟩
theorem finK {fn : Func} {p q r : Nat} {u0 u1 v0 v1 x y : Value} {t : TypeId} {a : Act} {w W : World} (h : fn.results = #[.cell p 35, .tmp q, .tmp r]) (hp : a.tmps.getD p undef = .pointer (some ⟨w.heap.size, 0, none⟩)) (hq : a.tmps.getD q undef = x) (hr : a.tmps.getD r undef = y)
    (hb : W.heap[w.heap.size]? = some (.cells #[u0, u1] t (0, 0))) (hB : Below w.heap.size w W) (hd : a.defers = []) :
    bodyPost Tryd.prog fn (fun e w' => e = .returned (.tuple #[.agg #[v0, v1], x, y]) ∧ Below w.heap.size w w') .ret a ((W.setCell ⟨w.heap.size, 0, none⟩ v0).setCell ⟨w.heap.size, 1, none⟩ v1).drew :=
  finI h hp hq hr (two_set hb v0 v1) hd ⟨rfl, ((hB.setCell (p := ⟨w.heap.size, 0, none⟩) (Nat.le_refl _) _).setCell (p := ⟨w.heap.size, 1, none⟩) (Nat.le_refl _) _).drew⟩
abbrev boxI : Obj := .cells #[.int .u8 0, .int .u16 0] 35
set_option maxHeartbeats 2000000 in
theorem read_any (l : List Nat) (hl : l.length ≤ 1000000) (v : Value) (w : World) (hv : ByteR w v l) (hT : Tabs w) : Calls Tryd.prog 19 #[v] w fun e w' => e = .returned (.tuple #[insV (readL l).1 (readL l).2.1, .int .i64 ((readL l).2.2.1 : Nat), .int .i64 ((readL l).2.2.2 : Nat)]) ∧ Below w.heap.size w w' := by
  obtain ⟨b, o, sp, c, rfl, hc, h2, h3⟩ := hv
  match l with
  | [] =>
    go_enter Tryd.func19, Tryd.ntmps19
    go_wp2
    exact finI rfl rfl rfl rfl (at_new _ _) rfl ⟨rfl, box_below _ _⟩
  | x :: r =>
    obtain rfl := h2 (by simp)
    obtain ⟨hx, k0⟩ := h3 0 x rfl
    rw [Nat.add_zero] at k0
    have HR : Hid (∀ i y, r[i]? = some y → y < 256 ∧ w.cell? ⟨b, o + 1 + i, none⟩ = some (.int .u8 (y : Nat))) := Lib.hid fun i y hy => by
      have := h3 (i + 1) y hy
      rwa [show o + (i + 1) = o + 1 + i by omega] at this
    have hka := fun ob => cell_alloc ob k0
    have HS := Lib.hid (fun ob => size_any x hx (w.alloc ob) (hT.alloc ob))
    have hs3 := (size_form hx).2.2.1
    unfold readL
    simp only [List.length_cons] at hl hc ⊢
    generalize sizeF (formL x) = s at HS hs3 ⊢
    generalize hm : r.length = m at hl hc ⊢
    have HM := Lib.hid hm
    clear hT h3 h2 hm k0
    match s, hs3 with
    | 0, _ =>
      rw [if_pos rfl]
      go_enter Tryd.func19, Tryd.ntmps19
      go_wp2_with (go_at_call 14; refine (HS.out _).mono ?_; rintro _ w1 ⟨rfl, hb1⟩; have hr1 := at_below hb1 (at_new w _); obtain ⟨⟨c0, c1⟩, ⟨f0, f1⟩⟩ := two hr1; have HB := Lib.hid (below_new _ hb1); have HR1 := Lib.hid hr1; have ka := keep_below hb1 _ _ (hka _); clear hb1 hr1)
      exact finJ rfl rfl rfl rfl HR1.out HB.out rfl
    | 1, _ =>
      rw [if_neg (by decide), if_neg (by omega)]
      go_enter Tryd.func19, Tryd.ntmps19
      go_wp2_with (go_at_call 14; refine (HS.out _).mono ?_; rintro _ w1 ⟨rfl, hb1⟩; have hr1 := at_below hb1 (at_new w _); obtain ⟨⟨c0, c1⟩, ⟨f0, f1⟩⟩ := two hr1; have HB := Lib.hid (below_new _ hb1); have HR1 := Lib.hid hr1; have ka := keep_below hb1 _ _ (hka _); clear hb1 hr1)
      have c0' : w1.drew.cell? ⟨w.heap.size, 0, none⟩ = some (.int .u8 0) := c0
      have c1' : w1.drew.cell? ⟨w.heap.size, 1, none⟩ = some (.int .u16 0) := c1
      have f0' : w1.drew.frozen? ⟨w.heap.size, 0, none⟩ = false := f0
      have f1' : w1.drew.frozen? ⟨w.heap.size, 1, none⟩ = false := f1
      have HB' : Hid (Below w.heap.size w w1.drew) := Lib.hid HB.out.drew
      have HR' : Hid (w1.drew.heap[w.heap.size]? = some boxI) := Lib.hid HR1.out
      have HV : Hid (Calls Tryd.prog 34 #[.slice (some ⟨b, o, none⟩) 0 0] w1.drew fun e w' => e = .returned (.int .u16 0) ∧ w' = w1.drew) := Lib.hid (lowFirst_any [] (by decide) _ _ ⟨b, o, _, 0, rfl, Nat.le_refl _, by simp, by simp⟩)
      have hcz : (1 : Int) ≤ c := by omega
      go_region_with (go_at_call 34; refine HV.out.mono ?_; rintro _ _ ⟨rfl, rfl⟩)
      all_goals (go_wp2; go_simp; exact finK rfl rfl rfl rfl HR1.out HB.out rfl)
    | 2, _ =>
      rw [if_neg (by decide)]
      by_cases hlt : m + 1 < 2
      · rw [if_pos hlt]
        have hb : decide ((m : Int) + 1 < 2) = true := decide_eq_true (by omega)
        go_enter Tryd.func19, Tryd.ntmps19
        go_wp2_with (go_at_call 14; refine (HS.out _).mono ?_; rintro _ w1 ⟨rfl, hb1⟩; have hr1 := at_below hb1 (at_new w _); obtain ⟨⟨c0, c1⟩, ⟨f0, f1⟩⟩ := two hr1; have HB := Lib.hid (below_new _ hb1); have HR1 := Lib.hid hr1; have ka := keep_below hb1 _ _ (hka _); clear hb1 hr1)
        exact finJ rfl rfl rfl rfl HR1.out HB.out rfl
      rw [if_neg hlt]
      have hb : decide ((m : Int) + 1 < 2) = false := decide_eq_false (by omega)
      obtain ⟨y, hy⟩ : ∃ y, r[0]? = some y := ⟨_, List.getElem?_eq_getElem (by rw [HM.out]; omega)⟩
      have HY := Lib.hid (HR.out 0 y hy)
      have e : numS 2 r = y := by unfold numS; rw [if_neg (by decide), if_pos rfl, List.getD_eq_getElem?_getD, hy]; rfl
      rw [e]
      clear e hy
      go_enter Tryd.func19, Tryd.ntmps19
      go_wp2_with (go_at_call 14; refine (HS.out _).mono ?_; rintro _ w1 ⟨rfl, hb1⟩; have hr1 := at_below hb1 (at_new w _); obtain ⟨⟨c0, c1⟩, ⟨f0, f1⟩⟩ := two hr1; have HB := Lib.hid (below_new _ hb1); have HR1 := Lib.hid hr1; have ka := keep_below hb1 _ _ (hka _); clear hb1 hr1)
      have c0' : w1.drew.cell? ⟨w.heap.size, 0, none⟩ = some (.int .u8 0) := c0
      have c1' : w1.drew.cell? ⟨w.heap.size, 1, none⟩ = some (.int .u16 0) := c1
      have f0' : w1.drew.frozen? ⟨w.heap.size, 0, none⟩ = false := f0
      have f1' : w1.drew.frozen? ⟨w.heap.size, 1, none⟩ = false := f1
      have HB' : Hid (Below w.heap.size w w1.drew) := Lib.hid HB.out.drew
      have HR' : Hid (w1.drew.heap[w.heap.size]? = some boxI) := Lib.hid HR1.out
      have HV : Hid (Calls Tryd.prog 34 #[.slice (some ⟨b, o + 1, none⟩) 1 1] w1.drew fun e w' => e = .returned (.int .u16 (y : Nat)) ∧ w' = w1.drew) := Lib.hid (by
        have := lowFirst_any [y] (by simp) (.slice (some ⟨b, o + 1, none⟩) 1 1) w1.drew ⟨b, o + 1, _, 1, rfl, Nat.le_refl _, fun _ => rfl, fun i z hz => by
          match i, hz with
          | 0, hz => simp at hz; subst hz; exact ⟨HY.out.1, keep_below HB.out _ _ HY.out.2⟩
          | i + 1, hz => simp at hz⟩
        simpa using this)
      have hcz : (2 : Int) ≤ c := by omega
      go_region_with (go_at_call 34; refine HV.out.mono ?_; rintro _ _ ⟨rfl, rfl⟩)
      all_goals (go_wp2; go_simp; exact finK rfl rfl rfl rfl HR1.out HB.out rfl)
    | 3, _ =>
      rw [if_neg (by decide)]
      by_cases hlt : m + 1 < 3
      · rw [if_pos hlt]
        have hb : decide ((m : Int) + 1 < 3) = true := decide_eq_true (by omega)
        go_enter Tryd.func19, Tryd.ntmps19
        go_wp2_with (go_at_call 14; refine (HS.out _).mono ?_; rintro _ w1 ⟨rfl, hb1⟩; have hr1 := at_below hb1 (at_new w _); obtain ⟨⟨c0, c1⟩, ⟨f0, f1⟩⟩ := two hr1; have HB := Lib.hid (below_new _ hb1); have HR1 := Lib.hid hr1; have ka := keep_below hb1 _ _ (hka _); clear hb1 hr1)
        exact finJ rfl rfl rfl rfl HR1.out HB.out rfl
      rw [if_neg hlt]
      have hb : decide ((m : Int) + 1 < 3) = false := decide_eq_false (by omega)
      obtain ⟨y, hy⟩ : ∃ y, r[0]? = some y := ⟨_, List.getElem?_eq_getElem (by rw [HM.out]; omega)⟩
      obtain ⟨z, hz⟩ : ∃ z, r[1]? = some z := ⟨_, List.getElem?_eq_getElem (by rw [HM.out]; omega)⟩
      have HY := Lib.hid (HR.out 0 y hy)
      have HZ := Lib.hid (HR.out 1 z hz)
      have e : numS 3 r = y + z * 256 := by unfold numS; rw [if_neg (by decide), if_neg (by decide), List.getD_eq_getElem?_getD, List.getD_eq_getElem?_getD, hy, hz]; rfl
      rw [e]
      clear e hy hz
      obtain ⟨yz, hyz⟩ : ∃ yz, y + z * 256 = yz := ⟨_, rfl⟩
      rw [hyz]
      have HYZ := Lib.hid hyz
      clear hyz
      go_enter Tryd.func19, Tryd.ntmps19
      go_wp2_with (go_at_call 14; refine (HS.out _).mono ?_; rintro _ w1 ⟨rfl, hb1⟩; have hr1 := at_below hb1 (at_new w _); obtain ⟨⟨c0, c1⟩, ⟨f0, f1⟩⟩ := two hr1; have HB := Lib.hid (below_new _ hb1); have HR1 := Lib.hid hr1; have ka := keep_below hb1 _ _ (hka _); clear hb1 hr1)
      have c0' : w1.drew.cell? ⟨w.heap.size, 0, none⟩ = some (.int .u8 0) := c0
      have c1' : w1.drew.cell? ⟨w.heap.size, 1, none⟩ = some (.int .u16 0) := c1
      have f0' : w1.drew.frozen? ⟨w.heap.size, 0, none⟩ = false := f0
      have f1' : w1.drew.frozen? ⟨w.heap.size, 1, none⟩ = false := f1
      have HB' : Hid (Below w.heap.size w w1.drew) := Lib.hid HB.out.drew
      have HR' : Hid (w1.drew.heap[w.heap.size]? = some boxI) := Lib.hid HR1.out
      have HV : Hid (Calls Tryd.prog 34 #[.slice (some ⟨b, o + 1, none⟩) 2 2] w1.drew fun e w' => e = .returned (.int .u16 (yz : Nat)) ∧ w' = w1.drew) := Lib.hid (by
        rw [← HYZ.out]
        have := lowFirst_any [y, z] (by simp) (.slice (some ⟨b, o + 1, none⟩) 2 2) w1.drew ⟨b, o + 1, _, 2, rfl, Nat.le_refl _, fun _ => rfl, fun i u hu => by
          match i, hu with
          | 0, hu => simp at hu; subst hu; exact ⟨HY.out.1, keep_below HB.out _ _ HY.out.2⟩
          | 1, hu => simp at hu; subst hu; exact ⟨HZ.out.1, keep_below HB.out _ _ HZ.out.2⟩
          | i + 2, hu => simp at hu⟩
        simpa using this)
      have hcz : (3 : Int) ≤ c := by omega
      go_region_with (go_at_call 34; refine HV.out.mono ?_; rintro _ _ ⟨rfl, rfl⟩)
      all_goals (go_wp2; go_simp; exact finK rfl rfl rfl rfl HR1.out HB.out rfl)
end Go.Proofs.YtlpbomdkcofhhaaDoor
