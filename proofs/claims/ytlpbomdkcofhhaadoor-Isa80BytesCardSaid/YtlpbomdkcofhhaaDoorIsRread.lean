/- What the document's Read answers: the instruction at the begin of a row of bytes, or why there is none; the row is short. -/
import Derived.Test.YtlpbomdkcofhhaaDoorIsRead
namespace Go.Proofs.YtlpbomdkcofhhaaDoor
open Go.RowKit

theorem res4 {fn : Func} {p q r s : Nat} {x y z u : Value} {tmps : Array Value} {W : World} (h : fn.results = #[.tmp p, .tmp q, .tmp r, .tmp s]) (hp : tmps.getD p undef = x) (hq : tmps.getD q undef = y) (hr : tmps.getD r undef = z) (hs : tmps.getD s undef = u) : (results fn tmps).run Tryd.prog W = .ok (.tuple #[x, y, z, u]) W := by
  simp only [Array.getD_eq_getD_getElem?] at hp hq hr hs
  simp only [results, h]
  simp [hp, hq, hr, hs, go_sem]
theorem fin4 {fn : Func} {p q r s : Nat} {x y z u : Value} {a : Act} {w W : World} (h : fn.results = #[.tmp p, .tmp q, .tmp r, .tmp s]) (hp : a.tmps.getD p undef = x) (hq : a.tmps.getD q undef = y) (hr : a.tmps.getD r undef = z) (hs : a.tmps.getD s undef = u) (hd : a.defers = []) (hB : Below w.heap.size w W) :
    bodyPost Tryd.prog fn (fun e w' => e = .returned (.tuple #[x, y, z, u]) ∧ Below w.heap.size w w') .ret a W :=
  bodyPost_ret (res4 h hp hq hr hs) hd ⟨rfl, hB⟩
set_option maxHeartbeats 2000000 in
theorem rread_any (l : List Nat) (hl : l.length ≤ 1000000) (v : Value) (w : World) (hv : ByteR w v l) : Calls Tryd.prog 20 #[v] w fun e w' => e = .returned (.tuple #[.int .u8 ((readL l).1 : Nat), .int .u16 ((readL l).2.1 : Nat), .int .i64 ((readL l).2.2.1 : Nat), .int .i64 ((readL l).2.2.2 : Nat)]) ∧ Below w.heap.size w w' := by
  obtain ⟨b, o, sp, c, rfl, hc, h2, h3⟩ := hv
  match l with
  | [] =>
    go_enter Tryd.func20, Tryd.ntmps20
    go_wp2
    exact fin4 rfl rfl rfl rfl rfl rfl (Below.refl _ _)
  | x :: r =>
    obtain rfl := h2 (by simp)
    obtain ⟨hx, k0⟩ := h3 0 x rfl
    rw [Nat.add_zero] at k0
    have HR : Hid (∀ i y, r[i]? = some y → y < 256 ∧ w.cell? ⟨b, o + 1 + i, none⟩ = some (.int .u8 (y : Nat))) := Lib.hid fun i y hy => by
      have := h3 (i + 1) y hy
      rwa [show o + (i + 1) = o + 1 + i by omega] at this
    have HS := Lib.hid (rsize_any x hx w)
    have hs3 := (size_form hx).2.2.1
    unfold readL
    simp only [List.length_cons] at hl hc ⊢
    generalize sizeF (formL x) = s at HS hs3 ⊢
    generalize hm : r.length = m at hl hc ⊢
    have HM := Lib.hid hm
    have K0 := Lib.hid k0
    clear h3 h2 hm
    match s, hs3 with
    | 0, _ =>
      rw [if_pos rfl]
      go_enter Tryd.func20, Tryd.ntmps20
      go_wp2_with (go_at_call 15; refine HS.out.mono ?_; rintro _ w1 ⟨rfl, hb1⟩; have ka := keep_below hb1 _ _ K0.out; have HB := Lib.hid hb1; clear hb1)
      exact fin4 rfl rfl rfl rfl rfl rfl HB.out
    | 1, _ =>
      rw [if_neg (by decide), if_neg (by omega)]
      have hb : decide ((m : Int) + 1 < 1) = false := decide_eq_false (by omega)
      have e : numS 1 r = 0 := rfl
      rw [e]
      go_enter Tryd.func20, Tryd.ntmps20
      go_wp2_with (go_at_call 15; refine HS.out.mono ?_; rintro _ w1 ⟨rfl, hb1⟩; have ka := keep_below hb1 _ _ K0.out; have HB := Lib.hid hb1; clear hb1)
      exact fin4 rfl rfl rfl rfl rfl rfl HB.out
    | 2, _ =>
      rw [if_neg (by decide)]
      by_cases hlt : m + 1 < 2
      · rw [if_pos hlt]
        have hb : decide ((m : Int) + 1 < 2) = true := decide_eq_true (by omega)
        go_enter Tryd.func20, Tryd.ntmps20
        go_wp2_with (go_at_call 15; refine HS.out.mono ?_; rintro _ w1 ⟨rfl, hb1⟩; have ka := keep_below hb1 _ _ K0.out; have HB := Lib.hid hb1; clear hb1)
        exact fin4 rfl rfl rfl rfl rfl rfl HB.out
      rw [if_neg hlt]
      have hb : decide ((m : Int) + 1 < 2) = false := decide_eq_false (by omega)
      obtain ⟨y, hy⟩ : ∃ y, r[0]? = some y := ⟨_, List.getElem?_eq_getElem (by rw [HM.out]; omega)⟩
      obtain ⟨hy8, ky⟩ := HR.out 0 y hy
      rw [Nat.add_zero] at ky
      have KY := Lib.hid ky
      have e : numS 2 r = y := by unfold numS; rw [if_neg (by decide), if_pos rfl, List.getD_eq_getElem?_getD, hy]; rfl
      rw [e]
      clear e hy ky
      go_enter Tryd.func20, Tryd.ntmps20
      go_wp2_with (go_at_call 15; refine HS.out.mono ?_; rintro _ w1 ⟨rfl, hb1⟩; have ka := keep_below hb1 _ _ K0.out; have kb := keep_below hb1 _ _ KY.out; have HB := Lib.hid hb1; clear hb1)
      exact fin4 rfl rfl rfl rfl rfl rfl HB.out
    | 3, _ =>
      rw [if_neg (by decide)]
      by_cases hlt : m + 1 < 3
      · rw [if_pos hlt]
        have hb : decide ((m : Int) + 1 < 3) = true := decide_eq_true (by omega)
        go_enter Tryd.func20, Tryd.ntmps20
        go_wp2_with (go_at_call 15; refine HS.out.mono ?_; rintro _ w1 ⟨rfl, hb1⟩; have ka := keep_below hb1 _ _ K0.out; have HB := Lib.hid hb1; clear hb1)
        exact fin4 rfl rfl rfl rfl rfl rfl HB.out
      rw [if_neg hlt]
      have hb : decide ((m : Int) + 1 < 3) = false := decide_eq_false (by omega)
      obtain ⟨y, hy⟩ : ∃ y, r[0]? = some y := ⟨_, List.getElem?_eq_getElem (by rw [HM.out]; omega)⟩
      obtain ⟨z, hz⟩ : ∃ z, r[1]? = some z := ⟨_, List.getElem?_eq_getElem (by rw [HM.out]; omega)⟩
      obtain ⟨hy8, ky⟩ := HR.out 0 y hy
      obtain ⟨hz8, kz⟩ := HR.out 1 z hz
      rw [Nat.add_zero] at ky
      have KY := Lib.hid ky
      have KZ := Lib.hid kz
      have e : numS 3 r = y + z * 256 := by unfold numS; rw [if_neg (by decide), if_neg (by decide), List.getD_eq_getElem?_getD, List.getD_eq_getElem?_getD, hy, hz]; rfl
      rw [e]
      clear e hy hz ky kz
      go_enter Tryd.func20, Tryd.ntmps20
      go_wp2_with (go_at_call 15; refine HS.out.mono ?_; rintro _ w1 ⟨rfl, hb1⟩; have ka := keep_below hb1 _ _ K0.out; have kb := keep_below hb1 _ _ KY.out; have kc := keep_below hb1 _ _ KZ.out; have HB := Lib.hid hb1; clear hb1)
      refine fin4 rfl rfl (by go_num) rfl rfl rfl HB.out
end Go.Proofs.YtlpbomdkcofhhaaDoor
