/- What the reader's row of the program does when it is called. -/
import Derived.Test.YtaoeipbofhkkcaaGreatDoorPrPas
namespace Go.Proofs.YtaoeipbofhkkcaaGreatDoor
open Go.RowKit Go.Proofs.NumMath

/-- the reader's surroundings -/
structure Env (w0 : World) (rb : Nat) (lv : Value) (L : List Tok) : Prop where
  b : w0.heap.size ≤ rb
  t : TokR w0 lv L
  l : L.length < 140737488355328
  s : ∀ t ∈ L, t.s.length < 140737488355328
/-- what reading an expression leaves -/
def Post (rb : Nat) (lv : Value) (L : List Tok) (e : RE) (r : List Tok) (op i0 : Nat) (w : World) (x : Ending) (w' : World) : Prop :=
  ∃ v i, x = .returned (.tuple #[v, .int .i64 0]) ∧ ExP (fun k => w.heap.size ≤ k) w' v (toEx e) ∧ L.drop i = r ∧ i0 ≤ i ∧ i ≤ L.length ∧ RS rb lv i op w' ∧ Ap rb w w'
def fnL : Nat → Nat
  | 1 => 51
  | 2 => 76
  | 3 => 95
  | 4 => 106
  | 5 => 120
  | 6 => 132
  | _ => 137
def Reads (n o : Nat) (l : List Tok) (e : RE) (r : List Tok) : Prop := ∀ (w0 : World) (rb : Nat) (lv : Value) (L : List Tok) (i : Nat) (w : World), Env w0 rb lv L → Below w0.heap.size w0 w → L.drop i = l → i ≤ L.length → o ≤ 48 → RS rb lv i (48 - o) w →
  Calls Tryz.prog (fnL n) #[.pointer (some ⟨rb, 0, none⟩)] w (Post rb lv L e r (48 - o) i w)
inductive RlR (n o : Nat) : RE → List Tok → RE → List Tok → Prop
  | stop (e l) : (∀ t ∈ l.head?, passB (opsN n) t = false) → RlR n o e l e l
  | on (e op u b r x r') : rk2 op = n → Reads (n + 1) o u b r → RlR n o (.bin op e b) r x r' → RlR n o e (tok2 op :: u) x r'
/-- words in a block -/
def wordsOf (ops : List (List UInt8)) : Array Value := (ops.map fun s => Value.string ⟨s.toArray⟩).toArray
theorem words_at {w : World} {b : Nat} {ops : List (List UInt8)} {fr : Nat × Nat} (h : w.heap[b]? = some (.cells (wordsOf ops) 9 fr)) (c : Nat) : WordsAt w (.slice (some ⟨b, 0, none⟩) ops.length c) ops := by
  refine ⟨b, 0, c, rfl, fun j s hj => ?_⟩
  simp [World.cell?, h, wordsOf, hj]
theorem resE {fn : Func} {p q k : Nat} {v0 v1 v2 v3 x : Value} {tmps : Array Value} {W : World} (h : fn.results = #[.cell p 25, .tmp q]) (hp : tmps.getD p undef = .pointer (some ⟨k, 0, none⟩)) (hq : tmps.getD q undef = x)
    (k0 : W.cell? ⟨k, 0, none⟩ = some v0) (k1 : W.cell? ⟨k, 1, none⟩ = some v1) (k2 : W.cell? ⟨k, 2, none⟩ = some v2) (k3 : W.cell? ⟨k, 3, none⟩ = some v3) : (results fn tmps).run Tryz.prog W = .ok (.tuple #[.agg #[v0, v1, v2, v3], x]) W := by
  simp only [Array.getD_eq_getD_getElem?] at hp hq
  simp only [results, h]
  simp [hp, hq, go_sem, k0, k1, k2, k3]
theorem finE {fn : Func} {R : Ending → World → Prop} {p q k : Nat} {v0 v1 v2 v3 x : Value} {t : TypeId} {a : Act} {W : World} (h : fn.results = #[.cell p 25, .tmp q]) (hp : a.tmps.getD p undef = .pointer (some ⟨k, 0, none⟩)) (hq : a.tmps.getD q undef = x)
    (hb : W.heap[k]? = some (.cells #[v0, v1, v2, v3] t (0, 0))) (hd : a.defers = []) (hR : R (.returned (.tuple #[.agg #[v0, v1, v2, v3], x])) W) : bodyPost Tryz.prog fn R .ret a W :=
  have ⟨k0, k1, k2, k3⟩ := cells_box hb
  bodyPost_ret (resE h hp hq k0 k1 k2 k3) hd hR
theorem Ap.stand {rb : Nat} {P : Nat → Prop} {w w' : World} (h : Ap rb w w') (hP : ∀ k, P k → k ≠ rb) : Stand P w w' := Stand.of_heap fun k hk _ hh => h.heap (hP k hk) hh
theorem set_stand {P : Nat → Prop} (w : World) (b j : Nat) (u : Value) (hP : ∀ k, P k → k ≠ b) : Stand P w (w.setCell ⟨b, j, none⟩ u) := Stand.of_heap fun k hk _ hh => (set_other j u (hP k hk)).trans hh
theorem Ap.put {rb b : Nat} {w w' : World} (h : Ap rb w w') (hb : w.heap.size ≤ b) (j : Nat) (u : Value) : Ap rb w (w'.setCell ⟨b, j, none⟩ u) :=
  ⟨h.os, h.tape, h.output, Nat.le_trans h.size (by simp [World.setCell]), fun k hk hn => (set_other j u (by omega)).trans (h.block k hk hn)⟩
theorem RS.put {rb i op b : Nat} {lv : Value} {w : World} (h : RS rb lv i op w) (hb : b ≠ rb) (j : Nat) (u : Value) : RS rb lv i op (w.setCell ⟨b, j, none⟩ u) := (set_other j u (fun e => hb e.symm)).trans h
theorem four_set {W : World} {k : Nat} {u0 u1 u2 u3 : Value} {t : TypeId} {fr : Nat × Nat} (h : W.heap[k]? = some (.cells #[u0, u1, u2, u3] t fr)) (a b c d : Value) :
    ((((W.setCell ⟨k, 0, none⟩ a).setCell ⟨k, 1, none⟩ b).setCell ⟨k, 2, none⟩ c).setCell ⟨k, 3, none⟩ d).heap[k]? = some (.cells #[a, b, c, d] t fr) := set_heap (set_heap (set_heap (set_heap h 0 a) 1 b) 2 c) 3 d
theorem four_other {W : World} {k i : Nat} (h : i ≠ k) (a b c d : Value) : ((((W.setCell ⟨k, 0, none⟩ a).setCell ⟨k, 1, none⟩ b).setCell ⟨k, 2, none⟩ c).setCell ⟨k, 3, none⟩ d).heap[i]? = W.heap[i]? := by
  rw [set_other 3 d h, set_other 2 c h, set_other 1 b h, set_other 0 a h]
theorem four_size (W : World) (k : Nat) (a b c d : Value) : ((((W.setCell ⟨k, 0, none⟩ a).setCell ⟨k, 1, none⟩ b).setCell ⟨k, 2, none⟩ c).setCell ⟨k, 3, none⟩ d).heap.size = W.heap.size := by simp [World.setCell]
theorem Ap.four {rb k : Nat} {w W : World} (h : Ap rb w W) (hk : w.heap.size ≤ k) (a b c d : Value) : Ap rb w ((((W.setCell ⟨k, 0, none⟩ a).setCell ⟨k, 1, none⟩ b).setCell ⟨k, 2, none⟩ c).setCell ⟨k, 3, none⟩ d) := (((h.put hk 0 a).put hk 1 b).put hk 2 c).put hk 3 d
theorem four_stand {P : Nat → Prop} (W : World) (k : Nat) (a b c d : Value) (hP : ∀ j, P j → j ≠ k) : Stand P W ((((W.setCell ⟨k, 0, none⟩ a).setCell ⟨k, 1, none⟩ b).setCell ⟨k, 2, none⟩ c).setCell ⟨k, 3, none⟩ d) := Stand.of_heap fun j hj _ hh => (four_other (hP j hj) a b c d).trans hh
theorem tok2_s (op : O2) : (tok2 op).s = txt2 op := by cases op <;> rfl
theorem txt2_ne (op : O2) : txt2 op ≠ [] := by cases op <;> simp [txt2]
def posOf (rb : Nat) (W : World) : Nat := match W.cell? ⟨rb, 1, none⟩ with
  | some (.int _ z) => z.toNat
  | _ => 0
theorem posOf_rs {rb i op : Nat} {lv : Value} {W : World} (h : RS rb lv i op W) : posOf rb W = i := by
  unfold posOf
  rw [(cells_three h).2.1]
  simp
theorem drop_some {L l : List Tok} {i : Nat} {t : Tok} (h : L.drop i = t :: l) : L[i]? = some t ∧ L.drop (i + 1) = l ∧ i + 1 ≤ L.length := by
  have h1 : L[i]? = some t := by have := congrArg List.head? h; simpa [List.head?_drop] using this
  refine ⟨h1, ?_, ?_⟩
  · have := congrArg (List.drop 1) h; simpa [List.drop_drop, Nat.add_comm] using this
  · have := (List.getElem?_eq_some_iff.1 h1).1; omega
theorem head_drop {L l : List Tok} {i : Nat} (h : L.drop i = l) (ops : List (List UInt8)) (hs : ∀ t ∈ l.head?, passB ops t = false) : passB ops (L[i]?.getD noTok) = false := by
  cases hx : L[i]? with
  | none => simp [noTok, passB, show nameL [] = false by decide]
  | some t =>
    have : l.head? = some t := by rw [← h]; simpa [List.head?_drop] using hx
    exact hs t (by rw [this]; rfl)
set_option maxHeartbeats 8000000 in
set_option maxRecDepth 100000 in
theorem row1_any (o : Nat) (l : List Tok) (e : RE) (r : List Tok) (x : RE) (r' : List Tok) (hp : Reads (1 + 1) o l e r) (hl : RlR 1 o e r x r')
    (w0 : World) (rb tb c : Nat) (lv : Value) (L : List Tok) (i : Nat) (w : World) (hE : Env w0 rb lv L) (hB : Below w0.heap.size w0 w) (hd : L.drop i = l) (hi : i ≤ L.length) (ho : o ≤ 48) (hR : RS rb lv i (48 - o) w) (htb : tb ≠ rb) (hW : w.heap[tb]? = some (.cells (wordsOf (opsN 1)) 9 (0, 0))) :
    Calls Tryz.prog 75 #[.pointer (some ⟨rb, 0, none⟩), .func (.func 76) #[.pointer (some ⟨rb, 0, none⟩)] #[], .slice (some ⟨tb, 0, none⟩) 2 c] w (Post rb lv L x r' (48 - o) i w) := by
  have hp1 : ∀ w, Below w0.heap.size w0 w → RS rb lv i (48 - o) w → Calls Tryz.prog 76 #[.pointer (some ⟨rb, 0, none⟩)] w (Post rb lv L e r (48 - o) i w) := fun w h1 h2 => hp w0 rb lv L i w hE h1 hd hi ho h2
  have hrb : rb < w.heap.size := (Array.getElem?_eq_some_iff.1 hR).1
  have htw : tb < w.heap.size := (Array.getElem?_eq_some_iff.1 hW).1
  have HE := Lib.hid hE
  have HB := Lib.hid hB
  have HR := Lib.hid hR
  have HW := Lib.hid hW
  have HL := Lib.hid hl
  have HP := Lib.hid hp1
  have HX := Lib.hid (box_below w (Obj.cells #[Value.string ⟨#[]⟩, Value.int .u16 0, Value.string ⟨#[]⟩, Value.slice none 0 0] 25))
  have HXb := Lib.hid (heap_alloc_new w (Obj.cells #[Value.string ⟨#[]⟩, Value.int .u16 0, Value.string ⟨#[]⟩, Value.slice none 0 0] 25))
  clear hE hB hR hW hl hp hp1 hd
  go_enter Tryz.func75, Tryz.ntmps75
  go_wp2_with (first
    | (go_at_call 76; refine (HP.out _ (HB.out.trans (HX.out.mono HB.out.size)) (below_heap HX.out HR.out)).mono ?_; rintro _ w1 ⟨v, i1, rfl, hv, hd1, hii, hi1, hR1, hA1⟩
       have HV := Lib.hid hv
       obtain ⟨X, hX⟩ : ∃ X, toEx e = X := ⟨_, rfl⟩
       rw [hX] at hv
       obtain ⟨eo, en, es, el⟩ := X
       obtain ⟨hn1, b1, o1, sp1, c1, rfl, hsp1, hll1⟩ := hv
       obtain ⟨m, hm⟩ : ∃ m, el.length = m := ⟨_, rfl⟩
       rw [hm] at HV ⊢
       have HR1 := Lib.hid hR1
       have HA1 := Lib.hid hA1
       have HD1 := Lib.hid hd1
       clear hll1 hsp1 hX hm hR1 hA1 hd1))
  have hsz1 : w.heap.size + 1 ≤ w1.heap.size := by have := HA1.out.size; simpa using this
  go_loopw [9] (fun k wr => ∃ (e : RE) (l : List Tok) (eo es : List UInt8) (en m c1 i : Nat) (sp1 : Option Addr), k = .int .i64 0 ∧ Hid (RlR 1 o e l x r') ∧ Hid (ExP (fun k => w.heap.size + 1 ≤ k ∧ k ≠ w1.heap.size) wr (.agg #[.string ⟨eo.toArray⟩, .int .u16 (en : Nat), .string ⟨es.toArray⟩, .slice sp1 m c1]) (toEx e)) ∧
    Hid (wr.heap[w1.heap.size]? = some (.cells #[.string ⟨eo.toArray⟩, .int .u16 (en : Nat), .string ⟨es.toArray⟩, .slice sp1 m c1] 25 (0, 0))) ∧ Hid (L.drop i = l) ∧ Hid (i1 ≤ i) ∧ Hid (i ≤ L.length) ∧ Hid (RS rb lv i (48 - o) wr) ∧
    Hid (Ap rb (w.alloc (Obj.cells #[Value.string ⟨#[]⟩, Value.int .u16 0, Value.string ⟨#[]⟩, Value.slice none 0 0] 25)) wr) ∧ Hid (w1.heap.size < wr.heap.size)) (fun _ wr => L.length - posOf rb wr)
  case atStart =>
    refine ⟨e, r, eo, es, en, m, c1, i1, sp1, rfl, HL, Lib.hid ?_, Lib.hid (heap_alloc_new w1 _), HD1, Lib.hid (Nat.le_refl _), Lib.hid hi1, Lib.hid (below_heap (box_below w1 _) HR1.out), Lib.hid (HA1.out.trans (Ap.of (box_below w1 _))), Lib.hid (by simp)⟩
    refine ExP.keep (Stand.below (box_below w1 _)) (fun k o u hk hc => ⟨by simpa using hk, ?_⟩) HV.out
    have := cell_lt hc
    omega
  case round =>
    obtain ⟨e, l, eo, es, en, m, c1, i2, sp1, rfl, HRl, HV2, HN, HD2, Hi1, Hi2, HR2, HA2, Hsz⟩ := hrel
    have hi2 := Hi2.out
    have htb2 := HA2.out.heap htb (below_heap HX.out HW.out)
    have hpass := pass_any rb lv (.slice (some ⟨tb, 0, none⟩) 2 c) L (opsN 1) i2 (48 - o) wr (HE.out.t.keep (keep_bel (HB.out.trans ((HX.out.mono HB.out.size).trans (HA2.out.below HE.out.b (Nat.le_trans HB.out.size HX.out.size)))))) hi2 HE.out.l HE.out.s HR2.out (words_at htb2 c) (by simp [opsN])
    have HQ := Lib.hid hpass
    clear hpass htb2
    cases HRl.out with
    | stop _ _ hst =>
      have hf := head_drop HD2.out (opsN 1) hst
      have hq := HQ.out
      rw [hf] at hq
      simp only [Bool.false_eq_true, if_false] at hq
      have HS := Lib.hid hq
      clear hq hf hst
      go_wp2_with (first
        | (go_at_call 94; refine HS.out.mono ?_; rintro _ w4 ⟨rfl, hR4, hA4⟩
           obtain ⟨d0, d1, d2, d3⟩ := cells_box (hA4.heap (show w1.heap.size ≠ rb by omega) HN.out)
           have HG := Lib.hid (hA4.heap (show w.heap.size ≠ rb by omega) (HA2.out.heap (show w.heap.size ≠ rb by omega) HXb.out))
           obtain ⟨g0, g1, g2, g3⟩ := cells_box HG.out
           have f0 := Lib.frozen_of_heap HG.out 0
           have f1 := Lib.frozen_of_heap HG.out 1
           have f2 := Lib.frozen_of_heap HG.out 2
           have f3 := Lib.frozen_of_heap HG.out 3
           have HR4 := Lib.hid hR4
           have HA4 := Lib.hid hA4
           clear hR4 hA4))
      refine finE rfl rfl rfl (four_set HG.out _ _ _ _) rfl ?_
      refine ⟨_, i2, rfl, ExP.keep ((HA4.out.stand (P := fun k => w.heap.size + 1 ≤ k ∧ k ≠ w1.heap.size) fun k hk => by omega).trans (four_stand w4 w.heap.size _ _ _ _ fun k hk => by omega)) (fun k _ _ hk _ => by show w.heap.size ≤ k; omega) HV2.out, HD2.out, Nat.le_trans hii Hi1.out, hi2, ?_, ?_⟩
      · exact (four_other (show rb ≠ w.heap.size by omega) _ _ _ _).trans HR4.out
      · exact ((Ap.of HX.out).trans (HA2.out.trans HA4.out)).four (Nat.le_refl _) _ _ _ _
    | on _ op u b r2 _ _ hop hrd hrl =>
      obtain ⟨ht, hd3, hi3⟩ := drop_some HD2.out
      have hq := HQ.out
      have hps := pass_tok2 op
      rw [hop] at hps
      rw [ht, Option.getD_some, hps] at hq
      simp only [if_true, tok2_s] at hq
      have hem := isEmpty_mk (txt2_ne op)
      obtain ⟨T, hT⟩ : ∃ T, txt2 op = T := ⟨_, rfl⟩
      rw [hT] at hq hem
      have HS := Lib.hid hq
      have HO := Lib.hid hop
      have HRd := Lib.hid hrd
      have HRr := Lib.hid hrl
      have HTT := Lib.hid hT
      have HD3 := Lib.hid hd3
      have HI3 := Lib.hid hi3
      clear hq hop hrd hrl hT hd3 hi3 ht hps
      go_upto_region 7 with (first
        | (go_at_call 94; refine HS.out.mono ?_; rintro _ w4 ⟨rfl, hR4, hA4⟩
           have HR4 := Lib.hid hR4
           have HA4 := Lib.hid hA4
           have HX4 := Lib.hid (box_below w4 (Obj.cells #[Value.string ⟨#[]⟩, Value.int .u16 0, Value.string ⟨#[]⟩, Value.slice none 0 0] 25))
           have HXb4 := Lib.hid (heap_alloc_new w4 (Obj.cells #[Value.string ⟨#[]⟩, Value.int .u16 0, Value.string ⟨#[]⟩, Value.slice none 0 0] 25))
           have hs4 : w1.heap.size < w4.heap.size := Nat.lt_of_lt_of_le Hsz.out hA4.size
           have HL4 := Lib.hid (hA4.heap (show w1.heap.size ≠ rb by omega) HN.out)
           clear hR4 hA4)
        | (go_at_call 76; refine (HRd.out w0 rb lv L (i2 + 1) _ HE.out (HB.out.trans ((HX.out.mono HB.out.size).trans (((HA2.out.trans HA4.out).trans (Ap.of HX4.out)).below HE.out.b (Nat.le_trans HB.out.size HX.out.size)))) HD3.out HI3.out ho (below_heap HX4.out HR4.out)).mono ?_; rintro _ w5 ⟨v5, i5, rfl, hv5, hd5, hii5, hi5, hR5, hA5⟩
           have HV5 := Lib.hid hv5
           obtain ⟨Y, hY⟩ : ∃ Y, toEx b = Y := ⟨_, rfl⟩
           rw [hY] at hv5
           obtain ⟨bo, bn, bs, bl⟩ := Y
           obtain ⟨hn5, b5, o5, sp5, c5, rfl, hsp5, hll5⟩ := hv5
           obtain ⟨m5, hm5⟩ : ∃ m, bl.length = m := ⟨_, rfl⟩
           rw [hm5] at HV5 ⊢
           have HR5 := Lib.hid hR5
           have HA5 := Lib.hid hA5
           have HD5 := Lib.hid hd5
           have hs5 : w4.heap.size + 1 ≤ w5.heap.size := by have := hA5.size; simpa using this
           have hrk := hA5.heap (show w4.heap.size ≠ rb by omega) HXb4.out
           obtain ⟨r0, r1, r2, r3⟩ := cells_box hrk
           have q0 := Lib.frozen_of_heap hrk 0
           have q1 := Lib.frozen_of_heap hrk 1
           have q2 := Lib.frozen_of_heap hrk 2
           have q3 := Lib.frozen_of_heap hrk 3
           have HRK := Lib.hid hrk
           clear hll5 hsp5 hY hm5 hR5 hA5 hd5 hrk))
      have hrkb : w4.heap.size ≠ rb := by omega
      have hlk : w1.heap.size ≠ w4.heap.size := by omega
      have hK := four_set HRK.out (.string ⟨bo.toArray⟩) (.int .u16 (bn : Nat)) (.string ⟨bs.toArray⟩) (.slice sp5 m5 c5)
      have hLb := (four_other (W := w5) hlk (.string ⟨bo.toArray⟩) (.int .u16 (bn : Nat)) (.string ⟨bs.toArray⟩) (.slice sp5 m5 c5)).trans (HA5.out.heap (show w1.heap.size ≠ rb by omega) (below_heap HX4.out HL4.out))
      have hRS := (four_other (W := w5) (show rb ≠ w4.heap.size by omega) (.string ⟨bo.toArray⟩) (.int .u16 (bn : Nat)) (.string ⟨bs.toArray⟩) (.slice sp5 m5 c5)).trans HR5.out
      have hAp := (HA2.out.trans (HA4.out.trans ((Ap.of HX4.out).trans HA5.out))).four (k := w4.heap.size) (by simp; omega) (.string ⟨bo.toArray⟩) (.int .u16 (bn : Nat)) (.string ⟨bs.toArray⟩) (.slice sp5 m5 c5)
      have hsz5 := four_size w5 w4.heap.size (.string ⟨bo.toArray⟩) (.int .u16 (bn : Nat)) (.string ⟨bs.toArray⟩) (.slice sp5 m5 c5)
      have hE1 : ExP (fun k => w.heap.size + 1 ≤ k ∧ k ≠ w1.heap.size ∧ k ≠ w4.heap.size) wr (.agg #[.string ⟨eo.toArray⟩, .int .u16 (en : Nat), .string ⟨es.toArray⟩, .slice sp1 m c1]) (toEx e) := ExP.keep (fun _ _ _ _ h => h) (fun k o u hk hc => ⟨hk.1, hk.2, by have := cell_lt hc; have := HA4.out.size; omega⟩) HV2.out
      have hE2 := ExP.keep (Q := fun k => w.heap.size + 1 ≤ k ∧ k ≠ w1.heap.size) (((HA4.out.stand (P := fun k => w.heap.size + 1 ≤ k ∧ k ≠ w1.heap.size ∧ k ≠ w4.heap.size) fun k hk => by omega).trans (Stand.below HX4.out)).trans ((HA5.out.stand fun k hk => by omega).trans (four_stand w5 w4.heap.size (.string ⟨bo.toArray⟩) (.int .u16 (bn : Nat)) (.string ⟨bs.toArray⟩) (.slice sp5 m5 c5) fun k hk => by omega))) (fun k _ _ hk _ => ⟨hk.1, hk.2.1⟩) hE1
      have hE3 := ExP.keep (Q := fun k => w.heap.size + 1 ≤ k ∧ k ≠ w1.heap.size) (four_stand w5 w4.heap.size (.string ⟨bo.toArray⟩) (.int .u16 (bn : Nat)) (.string ⟨bs.toArray⟩) (.slice sp5 m5 c5) fun k hk => by have : (w4.alloc (Obj.cells #[Value.string ⟨#[]⟩, Value.int .u16 0, Value.string ⟨#[]⟩, Value.slice none 0 0] 25)).heap.size ≤ k := hk; simp at this; omega) (fun k _ _ hk _ => by have : (w4.alloc (Obj.cells #[Value.string ⟨#[]⟩, Value.int .u16 0, Value.string ⟨#[]⟩, Value.slice none 0 0] 25)).heap.size ≤ k := hk; simp at this; omega) HV5.out
      generalize ((((w5.setCell ⟨w4.heap.size, 0, none⟩ (.string ⟨bo.toArray⟩)).setCell ⟨w4.heap.size, 1, none⟩ (.int .u16 (bn : Nat))).setCell ⟨w4.heap.size, 2, none⟩ (.string ⟨bs.toArray⟩)).setCell ⟨w4.heap.size, 3, none⟩ (.slice sp5 m5 c5)) = WR at hK hLb hRS hAp hsz5 hE2 hE3 ⊢
      obtain ⟨s0, s1, s2, s3⟩ := cells_box hK
      obtain ⟨t0, t1, t2, t3⟩ := cells_box hLb
      have harr := box_below WR (Obj.cells #[.string ⟨eo.toArray⟩, .int .u16 (en : Nat), .string ⟨es.toArray⟩, .slice sp1 m c1, .string ⟨bo.toArray⟩, .int .u16 (bn : Nat), .string ⟨bs.toArray⟩, .slice sp5 m5 c5] 25)
      have hLa := below_heap harr hLb
      obtain ⟨a0, a1, a2, a3⟩ := cells_box hLa
      have p0 := Lib.frozen_of_heap hLa 0
      have p1 := Lib.frozen_of_heap hLa 1
      have p2 := Lib.frozen_of_heap hLa 2
      have p3 := Lib.frozen_of_heap hLa 3
      have HRS := Lib.hid hRS
      have HAp := Lib.hid hAp
      have HE2 := Lib.hid hE2
      have HE3 := Lib.hid hE3
      have HLa := Lib.hid hLa
      have HArr := Lib.hid harr
      clear hRS hAp hE1 hE2 hE3 hLa harr hK hLb r0 r1 r2 r3 q0 q1 q2 q3
      go_wp2
      have hab := heap_alloc_new WR (Obj.cells #[.string ⟨eo.toArray⟩, .int .u16 (en : Nat), .string ⟨es.toArray⟩, .slice sp1 m c1, .string ⟨bo.toArray⟩, .int .u16 (bn : Nat), .string ⟨bs.toArray⟩, .slice sp5 m5 c5] 25)
      rw [hsz5] at hab
      have hlb5 : w5.heap.size ≠ w1.heap.size := by omega
      have hA6 := (four_other (W := WR.alloc (Obj.cells #[.string ⟨eo.toArray⟩, .int .u16 (en : Nat), .string ⟨es.toArray⟩, .slice sp1 m c1, .string ⟨bo.toArray⟩, .int .u16 (bn : Nat), .string ⟨bs.toArray⟩, .slice sp5 m5 c5] 25)) hlb5 (.string ⟨T.toArray⟩) (.int .u16 0) (.string ⟨#[]⟩) (.slice (some ⟨w5.heap.size, 0, none⟩) 2 2)).trans hab
      have hR6 := (four_other (W := WR.alloc (Obj.cells #[.string ⟨eo.toArray⟩, .int .u16 (en : Nat), .string ⟨es.toArray⟩, .slice sp1 m c1, .string ⟨bo.toArray⟩, .int .u16 (bn : Nat), .string ⟨bs.toArray⟩, .slice sp5 m5 c5] 25)) (show rb ≠ w1.heap.size by omega) (.string ⟨T.toArray⟩) (.int .u16 0) (.string ⟨#[]⟩) (.slice (some ⟨w5.heap.size, 0, none⟩) 2 2)).trans (below_heap HArr.out HRS.out)
      have hSt : Stand (fun k => w.heap.size + 1 ≤ k ∧ k ≠ w1.heap.size) WR _ := (Stand.below HArr.out).trans (four_stand _ w1.heap.size (.string ⟨T.toArray⟩) (.int .u16 0) (.string ⟨#[]⟩) (.slice (some ⟨w5.heap.size, 0, none⟩) 2 2) fun k hk => hk.2)
      have hX1 := ExP.keep hSt (fun _ _ _ h _ => h) HE2.out
      have hX2 := ExP.keep hSt (fun _ _ _ h _ => h) HE3.out
      refine ⟨⟨.bin op e b, r2, T, [], 0, 2, 2, i5, some ⟨w5.heap.size, 0, none⟩, rfl, HRr, Lib.hid ?_, Lib.hid (four_set HLa.out _ _ _ _), HD5, Lib.hid (Nat.le_trans Hi1.out (Nat.le_of_succ_le hii5)), Lib.hid hi5, Lib.hid hR6, Lib.hid ((HAp.out.trans (Ap.of HArr.out)).four (by simp; omega) _ _ _ _), Lib.hid ?_⟩, ?_⟩
      · refine ⟨by omega, w5.heap.size, 0, some ⟨w5.heap.size, 0, none⟩, 2, by rw [HTT.out]; rfl, fun _ => ⟨rfl, by omega, hlb5⟩, ?_⟩
        simp only [ListP, and_true]
        exact ⟨hX1.cells (by simp [World.cell?, hA6]) (by simp [World.cell?, hA6]) (by simp [World.cell?, hA6]) (by simp [World.cell?, hA6]), hX2.cells (by simp [World.cell?, hA6]) (by simp [World.cell?, hA6]) (by simp [World.cell?, hA6]) (by simp [World.cell?, hA6])⟩
      · rw [four_size]; simp; omega
      · rw [posOf_rs hR6, posOf_rs HR2.out]; omega
set_option maxHeartbeats 8000000 in
set_option maxRecDepth 100000 in
theorem row2_any (o : Nat) (l : List Tok) (e : RE) (r : List Tok) (x : RE) (r' : List Tok) (hp : Reads (2 + 1) o l e r) (hl : RlR 2 o e r x r')
    (w0 : World) (rb tb c : Nat) (lv : Value) (L : List Tok) (i : Nat) (w : World) (hE : Env w0 rb lv L) (hB : Below w0.heap.size w0 w) (hd : L.drop i = l) (hi : i ≤ L.length) (ho : o ≤ 48) (hR : RS rb lv i (48 - o) w) (htb : tb ≠ rb) (hW : w.heap[tb]? = some (.cells (wordsOf (opsN 2)) 9 (0, 0))) :
    Calls Tryz.prog 75 #[.pointer (some ⟨rb, 0, none⟩), .func (.func 95) #[.pointer (some ⟨rb, 0, none⟩)] #[], .slice (some ⟨tb, 0, none⟩) 1 c] w (Post rb lv L x r' (48 - o) i w) := by
  have hp1 : ∀ w, Below w0.heap.size w0 w → RS rb lv i (48 - o) w → Calls Tryz.prog 95 #[.pointer (some ⟨rb, 0, none⟩)] w (Post rb lv L e r (48 - o) i w) := fun w h1 h2 => hp w0 rb lv L i w hE h1 hd hi ho h2
  have hrb : rb < w.heap.size := (Array.getElem?_eq_some_iff.1 hR).1
  have htw : tb < w.heap.size := (Array.getElem?_eq_some_iff.1 hW).1
  have HE := Lib.hid hE
  have HB := Lib.hid hB
  have HR := Lib.hid hR
  have HW := Lib.hid hW
  have HL := Lib.hid hl
  have HP := Lib.hid hp1
  have HX := Lib.hid (box_below w (Obj.cells #[Value.string ⟨#[]⟩, Value.int .u16 0, Value.string ⟨#[]⟩, Value.slice none 0 0] 25))
  have HXb := Lib.hid (heap_alloc_new w (Obj.cells #[Value.string ⟨#[]⟩, Value.int .u16 0, Value.string ⟨#[]⟩, Value.slice none 0 0] 25))
  clear hE hB hR hW hl hp hp1 hd
  go_enter Tryz.func75, Tryz.ntmps75
  go_wp2_with (first
    | (go_at_call 95; refine (HP.out _ (HB.out.trans (HX.out.mono HB.out.size)) (below_heap HX.out HR.out)).mono ?_; rintro _ w1 ⟨v, i1, rfl, hv, hd1, hii, hi1, hR1, hA1⟩
       have HV := Lib.hid hv
       obtain ⟨X, hX⟩ : ∃ X, toEx e = X := ⟨_, rfl⟩
       rw [hX] at hv
       obtain ⟨eo, en, es, el⟩ := X
       obtain ⟨hn1, b1, o1, sp1, c1, rfl, hsp1, hll1⟩ := hv
       obtain ⟨m, hm⟩ : ∃ m, el.length = m := ⟨_, rfl⟩
       rw [hm] at HV ⊢
       have HR1 := Lib.hid hR1
       have HA1 := Lib.hid hA1
       have HD1 := Lib.hid hd1
       clear hll1 hsp1 hX hm hR1 hA1 hd1))
  have hsz1 : w.heap.size + 1 ≤ w1.heap.size := by have := HA1.out.size; simpa using this
  go_loopw [9] (fun k wr => ∃ (e : RE) (l : List Tok) (eo es : List UInt8) (en m c1 i : Nat) (sp1 : Option Addr), k = .int .i64 0 ∧ Hid (RlR 2 o e l x r') ∧ Hid (ExP (fun k => w.heap.size + 1 ≤ k ∧ k ≠ w1.heap.size) wr (.agg #[.string ⟨eo.toArray⟩, .int .u16 (en : Nat), .string ⟨es.toArray⟩, .slice sp1 m c1]) (toEx e)) ∧
    Hid (wr.heap[w1.heap.size]? = some (.cells #[.string ⟨eo.toArray⟩, .int .u16 (en : Nat), .string ⟨es.toArray⟩, .slice sp1 m c1] 25 (0, 0))) ∧ Hid (L.drop i = l) ∧ Hid (i1 ≤ i) ∧ Hid (i ≤ L.length) ∧ Hid (RS rb lv i (48 - o) wr) ∧
    Hid (Ap rb (w.alloc (Obj.cells #[Value.string ⟨#[]⟩, Value.int .u16 0, Value.string ⟨#[]⟩, Value.slice none 0 0] 25)) wr) ∧ Hid (w1.heap.size < wr.heap.size)) (fun _ wr => L.length - posOf rb wr)
  case atStart =>
    refine ⟨e, r, eo, es, en, m, c1, i1, sp1, rfl, HL, Lib.hid ?_, Lib.hid (heap_alloc_new w1 _), HD1, Lib.hid (Nat.le_refl _), Lib.hid hi1, Lib.hid (below_heap (box_below w1 _) HR1.out), Lib.hid (HA1.out.trans (Ap.of (box_below w1 _))), Lib.hid (by simp)⟩
    refine ExP.keep (Stand.below (box_below w1 _)) (fun k o u hk hc => ⟨by simpa using hk, ?_⟩) HV.out
    have := cell_lt hc
    omega
  case round =>
    obtain ⟨e, l, eo, es, en, m, c1, i2, sp1, rfl, HRl, HV2, HN, HD2, Hi1, Hi2, HR2, HA2, Hsz⟩ := hrel
    have hi2 := Hi2.out
    have htb2 := HA2.out.heap htb (below_heap HX.out HW.out)
    have hpass := pass_any rb lv (.slice (some ⟨tb, 0, none⟩) 1 c) L (opsN 2) i2 (48 - o) wr (HE.out.t.keep (keep_bel (HB.out.trans ((HX.out.mono HB.out.size).trans (HA2.out.below HE.out.b (Nat.le_trans HB.out.size HX.out.size)))))) hi2 HE.out.l HE.out.s HR2.out (words_at htb2 c) (by simp [opsN])
    have HQ := Lib.hid hpass
    clear hpass htb2
    cases HRl.out with
    | stop _ _ hst =>
      have hf := head_drop HD2.out (opsN 2) hst
      have hq := HQ.out
      rw [hf] at hq
      simp only [Bool.false_eq_true, if_false] at hq
      have HS := Lib.hid hq
      clear hq hf hst
      go_wp2_with (first
        | (go_at_call 94; refine HS.out.mono ?_; rintro _ w4 ⟨rfl, hR4, hA4⟩
           obtain ⟨d0, d1, d2, d3⟩ := cells_box (hA4.heap (show w1.heap.size ≠ rb by omega) HN.out)
           have HG := Lib.hid (hA4.heap (show w.heap.size ≠ rb by omega) (HA2.out.heap (show w.heap.size ≠ rb by omega) HXb.out))
           obtain ⟨g0, g1, g2, g3⟩ := cells_box HG.out
           have f0 := Lib.frozen_of_heap HG.out 0
           have f1 := Lib.frozen_of_heap HG.out 1
           have f2 := Lib.frozen_of_heap HG.out 2
           have f3 := Lib.frozen_of_heap HG.out 3
           have HR4 := Lib.hid hR4
           have HA4 := Lib.hid hA4
           clear hR4 hA4))
      refine finE rfl rfl rfl (four_set HG.out _ _ _ _) rfl ?_
      refine ⟨_, i2, rfl, ExP.keep ((HA4.out.stand (P := fun k => w.heap.size + 1 ≤ k ∧ k ≠ w1.heap.size) fun k hk => by omega).trans (four_stand w4 w.heap.size _ _ _ _ fun k hk => by omega)) (fun k _ _ hk _ => by show w.heap.size ≤ k; omega) HV2.out, HD2.out, Nat.le_trans hii Hi1.out, hi2, ?_, ?_⟩
      · exact (four_other (show rb ≠ w.heap.size by omega) _ _ _ _).trans HR4.out
      · exact ((Ap.of HX.out).trans (HA2.out.trans HA4.out)).four (Nat.le_refl _) _ _ _ _
    | on _ op u b r2 _ _ hop hrd hrl =>
      obtain ⟨ht, hd3, hi3⟩ := drop_some HD2.out
      have hq := HQ.out
      have hps := pass_tok2 op
      rw [hop] at hps
      rw [ht, Option.getD_some, hps] at hq
      simp only [if_true, tok2_s] at hq
      have hem := isEmpty_mk (txt2_ne op)
      obtain ⟨T, hT⟩ : ∃ T, txt2 op = T := ⟨_, rfl⟩
      rw [hT] at hq hem
      have HS := Lib.hid hq
      have HO := Lib.hid hop
      have HRd := Lib.hid hrd
      have HRr := Lib.hid hrl
      have HTT := Lib.hid hT
      have HD3 := Lib.hid hd3
      have HI3 := Lib.hid hi3
      clear hq hop hrd hrl hT hd3 hi3 ht hps
      go_upto_region 7 with (first
        | (go_at_call 94; refine HS.out.mono ?_; rintro _ w4 ⟨rfl, hR4, hA4⟩
           have HR4 := Lib.hid hR4
           have HA4 := Lib.hid hA4
           have HX4 := Lib.hid (box_below w4 (Obj.cells #[Value.string ⟨#[]⟩, Value.int .u16 0, Value.string ⟨#[]⟩, Value.slice none 0 0] 25))
           have HXb4 := Lib.hid (heap_alloc_new w4 (Obj.cells #[Value.string ⟨#[]⟩, Value.int .u16 0, Value.string ⟨#[]⟩, Value.slice none 0 0] 25))
           have hs4 : w1.heap.size < w4.heap.size := Nat.lt_of_lt_of_le Hsz.out hA4.size
           have HL4 := Lib.hid (hA4.heap (show w1.heap.size ≠ rb by omega) HN.out)
           clear hR4 hA4)
        | (go_at_call 95; refine (HRd.out w0 rb lv L (i2 + 1) _ HE.out (HB.out.trans ((HX.out.mono HB.out.size).trans (((HA2.out.trans HA4.out).trans (Ap.of HX4.out)).below HE.out.b (Nat.le_trans HB.out.size HX.out.size)))) HD3.out HI3.out ho (below_heap HX4.out HR4.out)).mono ?_; rintro _ w5 ⟨v5, i5, rfl, hv5, hd5, hii5, hi5, hR5, hA5⟩
           have HV5 := Lib.hid hv5
           obtain ⟨Y, hY⟩ : ∃ Y, toEx b = Y := ⟨_, rfl⟩
           rw [hY] at hv5
           obtain ⟨bo, bn, bs, bl⟩ := Y
           obtain ⟨hn5, b5, o5, sp5, c5, rfl, hsp5, hll5⟩ := hv5
           obtain ⟨m5, hm5⟩ : ∃ m, bl.length = m := ⟨_, rfl⟩
           rw [hm5] at HV5 ⊢
           have HR5 := Lib.hid hR5
           have HA5 := Lib.hid hA5
           have HD5 := Lib.hid hd5
           have hs5 : w4.heap.size + 1 ≤ w5.heap.size := by have := hA5.size; simpa using this
           have hrk := hA5.heap (show w4.heap.size ≠ rb by omega) HXb4.out
           obtain ⟨r0, r1, r2, r3⟩ := cells_box hrk
           have q0 := Lib.frozen_of_heap hrk 0
           have q1 := Lib.frozen_of_heap hrk 1
           have q2 := Lib.frozen_of_heap hrk 2
           have q3 := Lib.frozen_of_heap hrk 3
           have HRK := Lib.hid hrk
           clear hll5 hsp5 hY hm5 hR5 hA5 hd5 hrk))
      have hrkb : w4.heap.size ≠ rb := by omega
      have hlk : w1.heap.size ≠ w4.heap.size := by omega
      have hK := four_set HRK.out (.string ⟨bo.toArray⟩) (.int .u16 (bn : Nat)) (.string ⟨bs.toArray⟩) (.slice sp5 m5 c5)
      have hLb := (four_other (W := w5) hlk (.string ⟨bo.toArray⟩) (.int .u16 (bn : Nat)) (.string ⟨bs.toArray⟩) (.slice sp5 m5 c5)).trans (HA5.out.heap (show w1.heap.size ≠ rb by omega) (below_heap HX4.out HL4.out))
      have hRS := (four_other (W := w5) (show rb ≠ w4.heap.size by omega) (.string ⟨bo.toArray⟩) (.int .u16 (bn : Nat)) (.string ⟨bs.toArray⟩) (.slice sp5 m5 c5)).trans HR5.out
      have hAp := (HA2.out.trans (HA4.out.trans ((Ap.of HX4.out).trans HA5.out))).four (k := w4.heap.size) (by simp; omega) (.string ⟨bo.toArray⟩) (.int .u16 (bn : Nat)) (.string ⟨bs.toArray⟩) (.slice sp5 m5 c5)
      have hsz5 := four_size w5 w4.heap.size (.string ⟨bo.toArray⟩) (.int .u16 (bn : Nat)) (.string ⟨bs.toArray⟩) (.slice sp5 m5 c5)
      have hE1 : ExP (fun k => w.heap.size + 1 ≤ k ∧ k ≠ w1.heap.size ∧ k ≠ w4.heap.size) wr (.agg #[.string ⟨eo.toArray⟩, .int .u16 (en : Nat), .string ⟨es.toArray⟩, .slice sp1 m c1]) (toEx e) := ExP.keep (fun _ _ _ _ h => h) (fun k o u hk hc => ⟨hk.1, hk.2, by have := cell_lt hc; have := HA4.out.size; omega⟩) HV2.out
      have hE2 := ExP.keep (Q := fun k => w.heap.size + 1 ≤ k ∧ k ≠ w1.heap.size) (((HA4.out.stand (P := fun k => w.heap.size + 1 ≤ k ∧ k ≠ w1.heap.size ∧ k ≠ w4.heap.size) fun k hk => by omega).trans (Stand.below HX4.out)).trans ((HA5.out.stand fun k hk => by omega).trans (four_stand w5 w4.heap.size (.string ⟨bo.toArray⟩) (.int .u16 (bn : Nat)) (.string ⟨bs.toArray⟩) (.slice sp5 m5 c5) fun k hk => by omega))) (fun k _ _ hk _ => ⟨hk.1, hk.2.1⟩) hE1
      have hE3 := ExP.keep (Q := fun k => w.heap.size + 1 ≤ k ∧ k ≠ w1.heap.size) (four_stand w5 w4.heap.size (.string ⟨bo.toArray⟩) (.int .u16 (bn : Nat)) (.string ⟨bs.toArray⟩) (.slice sp5 m5 c5) fun k hk => by have : (w4.alloc (Obj.cells #[Value.string ⟨#[]⟩, Value.int .u16 0, Value.string ⟨#[]⟩, Value.slice none 0 0] 25)).heap.size ≤ k := hk; simp at this; omega) (fun k _ _ hk _ => by have : (w4.alloc (Obj.cells #[Value.string ⟨#[]⟩, Value.int .u16 0, Value.string ⟨#[]⟩, Value.slice none 0 0] 25)).heap.size ≤ k := hk; simp at this; omega) HV5.out
      generalize ((((w5.setCell ⟨w4.heap.size, 0, none⟩ (.string ⟨bo.toArray⟩)).setCell ⟨w4.heap.size, 1, none⟩ (.int .u16 (bn : Nat))).setCell ⟨w4.heap.size, 2, none⟩ (.string ⟨bs.toArray⟩)).setCell ⟨w4.heap.size, 3, none⟩ (.slice sp5 m5 c5)) = WR at hK hLb hRS hAp hsz5 hE2 hE3 ⊢
      obtain ⟨s0, s1, s2, s3⟩ := cells_box hK
      obtain ⟨t0, t1, t2, t3⟩ := cells_box hLb
      have harr := box_below WR (Obj.cells #[.string ⟨eo.toArray⟩, .int .u16 (en : Nat), .string ⟨es.toArray⟩, .slice sp1 m c1, .string ⟨bo.toArray⟩, .int .u16 (bn : Nat), .string ⟨bs.toArray⟩, .slice sp5 m5 c5] 25)
      have hLa := below_heap harr hLb
      obtain ⟨a0, a1, a2, a3⟩ := cells_box hLa
      have p0 := Lib.frozen_of_heap hLa 0
      have p1 := Lib.frozen_of_heap hLa 1
      have p2 := Lib.frozen_of_heap hLa 2
      have p3 := Lib.frozen_of_heap hLa 3
      have HRS := Lib.hid hRS
      have HAp := Lib.hid hAp
      have HE2 := Lib.hid hE2
      have HE3 := Lib.hid hE3
      have HLa := Lib.hid hLa
      have HArr := Lib.hid harr
      clear hRS hAp hE1 hE2 hE3 hLa harr hK hLb r0 r1 r2 r3 q0 q1 q2 q3
      go_wp2
      have hab := heap_alloc_new WR (Obj.cells #[.string ⟨eo.toArray⟩, .int .u16 (en : Nat), .string ⟨es.toArray⟩, .slice sp1 m c1, .string ⟨bo.toArray⟩, .int .u16 (bn : Nat), .string ⟨bs.toArray⟩, .slice sp5 m5 c5] 25)
      rw [hsz5] at hab
      have hlb5 : w5.heap.size ≠ w1.heap.size := by omega
      have hA6 := (four_other (W := WR.alloc (Obj.cells #[.string ⟨eo.toArray⟩, .int .u16 (en : Nat), .string ⟨es.toArray⟩, .slice sp1 m c1, .string ⟨bo.toArray⟩, .int .u16 (bn : Nat), .string ⟨bs.toArray⟩, .slice sp5 m5 c5] 25)) hlb5 (.string ⟨T.toArray⟩) (.int .u16 0) (.string ⟨#[]⟩) (.slice (some ⟨w5.heap.size, 0, none⟩) 2 2)).trans hab
      have hR6 := (four_other (W := WR.alloc (Obj.cells #[.string ⟨eo.toArray⟩, .int .u16 (en : Nat), .string ⟨es.toArray⟩, .slice sp1 m c1, .string ⟨bo.toArray⟩, .int .u16 (bn : Nat), .string ⟨bs.toArray⟩, .slice sp5 m5 c5] 25)) (show rb ≠ w1.heap.size by omega) (.string ⟨T.toArray⟩) (.int .u16 0) (.string ⟨#[]⟩) (.slice (some ⟨w5.heap.size, 0, none⟩) 2 2)).trans (below_heap HArr.out HRS.out)
      have hSt : Stand (fun k => w.heap.size + 1 ≤ k ∧ k ≠ w1.heap.size) WR _ := (Stand.below HArr.out).trans (four_stand _ w1.heap.size (.string ⟨T.toArray⟩) (.int .u16 0) (.string ⟨#[]⟩) (.slice (some ⟨w5.heap.size, 0, none⟩) 2 2) fun k hk => hk.2)
      have hX1 := ExP.keep hSt (fun _ _ _ h _ => h) HE2.out
      have hX2 := ExP.keep hSt (fun _ _ _ h _ => h) HE3.out
      refine ⟨⟨.bin op e b, r2, T, [], 0, 2, 2, i5, some ⟨w5.heap.size, 0, none⟩, rfl, HRr, Lib.hid ?_, Lib.hid (four_set HLa.out _ _ _ _), HD5, Lib.hid (Nat.le_trans Hi1.out (Nat.le_of_succ_le hii5)), Lib.hid hi5, Lib.hid hR6, Lib.hid ((HAp.out.trans (Ap.of HArr.out)).four (by simp; omega) _ _ _ _), Lib.hid ?_⟩, ?_⟩
      · refine ⟨by omega, w5.heap.size, 0, some ⟨w5.heap.size, 0, none⟩, 2, by rw [HTT.out]; rfl, fun _ => ⟨rfl, by omega, hlb5⟩, ?_⟩
        simp only [ListP, and_true]
        exact ⟨hX1.cells (by simp [World.cell?, hA6]) (by simp [World.cell?, hA6]) (by simp [World.cell?, hA6]) (by simp [World.cell?, hA6]), hX2.cells (by simp [World.cell?, hA6]) (by simp [World.cell?, hA6]) (by simp [World.cell?, hA6]) (by simp [World.cell?, hA6])⟩
      · rw [four_size]; simp; omega
      · rw [posOf_rs hR6, posOf_rs HR2.out]; omega
set_option maxHeartbeats 8000000 in
set_option maxRecDepth 100000 in
theorem row4_any (o : Nat) (l : List Tok) (e : RE) (r : List Tok) (x : RE) (r' : List Tok) (hp : Reads (4 + 1) o l e r) (hl : RlR 4 o e r x r')
    (w0 : World) (rb tb c : Nat) (lv : Value) (L : List Tok) (i : Nat) (w : World) (hE : Env w0 rb lv L) (hB : Below w0.heap.size w0 w) (hd : L.drop i = l) (hi : i ≤ L.length) (ho : o ≤ 48) (hR : RS rb lv i (48 - o) w) (htb : tb ≠ rb) (hW : w.heap[tb]? = some (.cells (wordsOf (opsN 4)) 9 (0, 0))) :
    Calls Tryz.prog 75 #[.pointer (some ⟨rb, 0, none⟩), .func (.func 120) #[.pointer (some ⟨rb, 0, none⟩)] #[], .slice (some ⟨tb, 0, none⟩) 2 c] w (Post rb lv L x r' (48 - o) i w) := by
  have hp1 : ∀ w, Below w0.heap.size w0 w → RS rb lv i (48 - o) w → Calls Tryz.prog 120 #[.pointer (some ⟨rb, 0, none⟩)] w (Post rb lv L e r (48 - o) i w) := fun w h1 h2 => hp w0 rb lv L i w hE h1 hd hi ho h2
  have hrb : rb < w.heap.size := (Array.getElem?_eq_some_iff.1 hR).1
  have htw : tb < w.heap.size := (Array.getElem?_eq_some_iff.1 hW).1
  have HE := Lib.hid hE
  have HB := Lib.hid hB
  have HR := Lib.hid hR
  have HW := Lib.hid hW
  have HL := Lib.hid hl
  have HP := Lib.hid hp1
  have HX := Lib.hid (box_below w (Obj.cells #[Value.string ⟨#[]⟩, Value.int .u16 0, Value.string ⟨#[]⟩, Value.slice none 0 0] 25))
  have HXb := Lib.hid (heap_alloc_new w (Obj.cells #[Value.string ⟨#[]⟩, Value.int .u16 0, Value.string ⟨#[]⟩, Value.slice none 0 0] 25))
  clear hE hB hR hW hl hp hp1 hd
  go_enter Tryz.func75, Tryz.ntmps75
  go_wp2_with (first
    | (go_at_call 120; refine (HP.out _ (HB.out.trans (HX.out.mono HB.out.size)) (below_heap HX.out HR.out)).mono ?_; rintro _ w1 ⟨v, i1, rfl, hv, hd1, hii, hi1, hR1, hA1⟩
       have HV := Lib.hid hv
       obtain ⟨X, hX⟩ : ∃ X, toEx e = X := ⟨_, rfl⟩
       rw [hX] at hv
       obtain ⟨eo, en, es, el⟩ := X
       obtain ⟨hn1, b1, o1, sp1, c1, rfl, hsp1, hll1⟩ := hv
       obtain ⟨m, hm⟩ : ∃ m, el.length = m := ⟨_, rfl⟩
       rw [hm] at HV ⊢
       have HR1 := Lib.hid hR1
       have HA1 := Lib.hid hA1
       have HD1 := Lib.hid hd1
       clear hll1 hsp1 hX hm hR1 hA1 hd1))
  have hsz1 : w.heap.size + 1 ≤ w1.heap.size := by have := HA1.out.size; simpa using this
  go_loopw [9] (fun k wr => ∃ (e : RE) (l : List Tok) (eo es : List UInt8) (en m c1 i : Nat) (sp1 : Option Addr), k = .int .i64 0 ∧ Hid (RlR 4 o e l x r') ∧ Hid (ExP (fun k => w.heap.size + 1 ≤ k ∧ k ≠ w1.heap.size) wr (.agg #[.string ⟨eo.toArray⟩, .int .u16 (en : Nat), .string ⟨es.toArray⟩, .slice sp1 m c1]) (toEx e)) ∧
    Hid (wr.heap[w1.heap.size]? = some (.cells #[.string ⟨eo.toArray⟩, .int .u16 (en : Nat), .string ⟨es.toArray⟩, .slice sp1 m c1] 25 (0, 0))) ∧ Hid (L.drop i = l) ∧ Hid (i1 ≤ i) ∧ Hid (i ≤ L.length) ∧ Hid (RS rb lv i (48 - o) wr) ∧
    Hid (Ap rb (w.alloc (Obj.cells #[Value.string ⟨#[]⟩, Value.int .u16 0, Value.string ⟨#[]⟩, Value.slice none 0 0] 25)) wr) ∧ Hid (w1.heap.size < wr.heap.size)) (fun _ wr => L.length - posOf rb wr)
  case atStart =>
    refine ⟨e, r, eo, es, en, m, c1, i1, sp1, rfl, HL, Lib.hid ?_, Lib.hid (heap_alloc_new w1 _), HD1, Lib.hid (Nat.le_refl _), Lib.hid hi1, Lib.hid (below_heap (box_below w1 _) HR1.out), Lib.hid (HA1.out.trans (Ap.of (box_below w1 _))), Lib.hid (by simp)⟩
    refine ExP.keep (Stand.below (box_below w1 _)) (fun k o u hk hc => ⟨by simpa using hk, ?_⟩) HV.out
    have := cell_lt hc
    omega
  case round =>
    obtain ⟨e, l, eo, es, en, m, c1, i2, sp1, rfl, HRl, HV2, HN, HD2, Hi1, Hi2, HR2, HA2, Hsz⟩ := hrel
    have hi2 := Hi2.out
    have htb2 := HA2.out.heap htb (below_heap HX.out HW.out)
    have hpass := pass_any rb lv (.slice (some ⟨tb, 0, none⟩) 2 c) L (opsN 4) i2 (48 - o) wr (HE.out.t.keep (keep_bel (HB.out.trans ((HX.out.mono HB.out.size).trans (HA2.out.below HE.out.b (Nat.le_trans HB.out.size HX.out.size)))))) hi2 HE.out.l HE.out.s HR2.out (words_at htb2 c) (by simp [opsN])
    have HQ := Lib.hid hpass
    clear hpass htb2
    cases HRl.out with
    | stop _ _ hst =>
      have hf := head_drop HD2.out (opsN 4) hst
      have hq := HQ.out
      rw [hf] at hq
      simp only [Bool.false_eq_true, if_false] at hq
      have HS := Lib.hid hq
      clear hq hf hst
      go_wp2_with (first
        | (go_at_call 94; refine HS.out.mono ?_; rintro _ w4 ⟨rfl, hR4, hA4⟩
           obtain ⟨d0, d1, d2, d3⟩ := cells_box (hA4.heap (show w1.heap.size ≠ rb by omega) HN.out)
           have HG := Lib.hid (hA4.heap (show w.heap.size ≠ rb by omega) (HA2.out.heap (show w.heap.size ≠ rb by omega) HXb.out))
           obtain ⟨g0, g1, g2, g3⟩ := cells_box HG.out
           have f0 := Lib.frozen_of_heap HG.out 0
           have f1 := Lib.frozen_of_heap HG.out 1
           have f2 := Lib.frozen_of_heap HG.out 2
           have f3 := Lib.frozen_of_heap HG.out 3
           have HR4 := Lib.hid hR4
           have HA4 := Lib.hid hA4
           clear hR4 hA4))
      refine finE rfl rfl rfl (four_set HG.out _ _ _ _) rfl ?_
      refine ⟨_, i2, rfl, ExP.keep ((HA4.out.stand (P := fun k => w.heap.size + 1 ≤ k ∧ k ≠ w1.heap.size) fun k hk => by omega).trans (four_stand w4 w.heap.size _ _ _ _ fun k hk => by omega)) (fun k _ _ hk _ => by show w.heap.size ≤ k; omega) HV2.out, HD2.out, Nat.le_trans hii Hi1.out, hi2, ?_, ?_⟩
      · exact (four_other (show rb ≠ w.heap.size by omega) _ _ _ _).trans HR4.out
      · exact ((Ap.of HX.out).trans (HA2.out.trans HA4.out)).four (Nat.le_refl _) _ _ _ _
    | on _ op u b r2 _ _ hop hrd hrl =>
      obtain ⟨ht, hd3, hi3⟩ := drop_some HD2.out
      have hq := HQ.out
      have hps := pass_tok2 op
      rw [hop] at hps
      rw [ht, Option.getD_some, hps] at hq
      simp only [if_true, tok2_s] at hq
      have hem := isEmpty_mk (txt2_ne op)
      obtain ⟨T, hT⟩ : ∃ T, txt2 op = T := ⟨_, rfl⟩
      rw [hT] at hq hem
      have HS := Lib.hid hq
      have HO := Lib.hid hop
      have HRd := Lib.hid hrd
      have HRr := Lib.hid hrl
      have HTT := Lib.hid hT
      have HD3 := Lib.hid hd3
      have HI3 := Lib.hid hi3
      clear hq hop hrd hrl hT hd3 hi3 ht hps
      go_upto_region 7 with (first
        | (go_at_call 94; refine HS.out.mono ?_; rintro _ w4 ⟨rfl, hR4, hA4⟩
           have HR4 := Lib.hid hR4
           have HA4 := Lib.hid hA4
           have HX4 := Lib.hid (box_below w4 (Obj.cells #[Value.string ⟨#[]⟩, Value.int .u16 0, Value.string ⟨#[]⟩, Value.slice none 0 0] 25))
           have HXb4 := Lib.hid (heap_alloc_new w4 (Obj.cells #[Value.string ⟨#[]⟩, Value.int .u16 0, Value.string ⟨#[]⟩, Value.slice none 0 0] 25))
           have hs4 : w1.heap.size < w4.heap.size := Nat.lt_of_lt_of_le Hsz.out hA4.size
           have HL4 := Lib.hid (hA4.heap (show w1.heap.size ≠ rb by omega) HN.out)
           clear hR4 hA4)
        | (go_at_call 120; refine (HRd.out w0 rb lv L (i2 + 1) _ HE.out (HB.out.trans ((HX.out.mono HB.out.size).trans (((HA2.out.trans HA4.out).trans (Ap.of HX4.out)).below HE.out.b (Nat.le_trans HB.out.size HX.out.size)))) HD3.out HI3.out ho (below_heap HX4.out HR4.out)).mono ?_; rintro _ w5 ⟨v5, i5, rfl, hv5, hd5, hii5, hi5, hR5, hA5⟩
           have HV5 := Lib.hid hv5
           obtain ⟨Y, hY⟩ : ∃ Y, toEx b = Y := ⟨_, rfl⟩
           rw [hY] at hv5
           obtain ⟨bo, bn, bs, bl⟩ := Y
           obtain ⟨hn5, b5, o5, sp5, c5, rfl, hsp5, hll5⟩ := hv5
           obtain ⟨m5, hm5⟩ : ∃ m, bl.length = m := ⟨_, rfl⟩
           rw [hm5] at HV5 ⊢
           have HR5 := Lib.hid hR5
           have HA5 := Lib.hid hA5
           have HD5 := Lib.hid hd5
           have hs5 : w4.heap.size + 1 ≤ w5.heap.size := by have := hA5.size; simpa using this
           have hrk := hA5.heap (show w4.heap.size ≠ rb by omega) HXb4.out
           obtain ⟨r0, r1, r2, r3⟩ := cells_box hrk
           have q0 := Lib.frozen_of_heap hrk 0
           have q1 := Lib.frozen_of_heap hrk 1
           have q2 := Lib.frozen_of_heap hrk 2
           have q3 := Lib.frozen_of_heap hrk 3
           have HRK := Lib.hid hrk
           clear hll5 hsp5 hY hm5 hR5 hA5 hd5 hrk))
      have hrkb : w4.heap.size ≠ rb := by omega
      have hlk : w1.heap.size ≠ w4.heap.size := by omega
      have hK := four_set HRK.out (.string ⟨bo.toArray⟩) (.int .u16 (bn : Nat)) (.string ⟨bs.toArray⟩) (.slice sp5 m5 c5)
      have hLb := (four_other (W := w5) hlk (.string ⟨bo.toArray⟩) (.int .u16 (bn : Nat)) (.string ⟨bs.toArray⟩) (.slice sp5 m5 c5)).trans (HA5.out.heap (show w1.heap.size ≠ rb by omega) (below_heap HX4.out HL4.out))
      have hRS := (four_other (W := w5) (show rb ≠ w4.heap.size by omega) (.string ⟨bo.toArray⟩) (.int .u16 (bn : Nat)) (.string ⟨bs.toArray⟩) (.slice sp5 m5 c5)).trans HR5.out
      have hAp := (HA2.out.trans (HA4.out.trans ((Ap.of HX4.out).trans HA5.out))).four (k := w4.heap.size) (by simp; omega) (.string ⟨bo.toArray⟩) (.int .u16 (bn : Nat)) (.string ⟨bs.toArray⟩) (.slice sp5 m5 c5)
      have hsz5 := four_size w5 w4.heap.size (.string ⟨bo.toArray⟩) (.int .u16 (bn : Nat)) (.string ⟨bs.toArray⟩) (.slice sp5 m5 c5)
      have hE1 : ExP (fun k => w.heap.size + 1 ≤ k ∧ k ≠ w1.heap.size ∧ k ≠ w4.heap.size) wr (.agg #[.string ⟨eo.toArray⟩, .int .u16 (en : Nat), .string ⟨es.toArray⟩, .slice sp1 m c1]) (toEx e) := ExP.keep (fun _ _ _ _ h => h) (fun k o u hk hc => ⟨hk.1, hk.2, by have := cell_lt hc; have := HA4.out.size; omega⟩) HV2.out
      have hE2 := ExP.keep (Q := fun k => w.heap.size + 1 ≤ k ∧ k ≠ w1.heap.size) (((HA4.out.stand (P := fun k => w.heap.size + 1 ≤ k ∧ k ≠ w1.heap.size ∧ k ≠ w4.heap.size) fun k hk => by omega).trans (Stand.below HX4.out)).trans ((HA5.out.stand fun k hk => by omega).trans (four_stand w5 w4.heap.size (.string ⟨bo.toArray⟩) (.int .u16 (bn : Nat)) (.string ⟨bs.toArray⟩) (.slice sp5 m5 c5) fun k hk => by omega))) (fun k _ _ hk _ => ⟨hk.1, hk.2.1⟩) hE1
      have hE3 := ExP.keep (Q := fun k => w.heap.size + 1 ≤ k ∧ k ≠ w1.heap.size) (four_stand w5 w4.heap.size (.string ⟨bo.toArray⟩) (.int .u16 (bn : Nat)) (.string ⟨bs.toArray⟩) (.slice sp5 m5 c5) fun k hk => by have : (w4.alloc (Obj.cells #[Value.string ⟨#[]⟩, Value.int .u16 0, Value.string ⟨#[]⟩, Value.slice none 0 0] 25)).heap.size ≤ k := hk; simp at this; omega) (fun k _ _ hk _ => by have : (w4.alloc (Obj.cells #[Value.string ⟨#[]⟩, Value.int .u16 0, Value.string ⟨#[]⟩, Value.slice none 0 0] 25)).heap.size ≤ k := hk; simp at this; omega) HV5.out
      generalize ((((w5.setCell ⟨w4.heap.size, 0, none⟩ (.string ⟨bo.toArray⟩)).setCell ⟨w4.heap.size, 1, none⟩ (.int .u16 (bn : Nat))).setCell ⟨w4.heap.size, 2, none⟩ (.string ⟨bs.toArray⟩)).setCell ⟨w4.heap.size, 3, none⟩ (.slice sp5 m5 c5)) = WR at hK hLb hRS hAp hsz5 hE2 hE3 ⊢
      obtain ⟨s0, s1, s2, s3⟩ := cells_box hK
      obtain ⟨t0, t1, t2, t3⟩ := cells_box hLb
      have harr := box_below WR (Obj.cells #[.string ⟨eo.toArray⟩, .int .u16 (en : Nat), .string ⟨es.toArray⟩, .slice sp1 m c1, .string ⟨bo.toArray⟩, .int .u16 (bn : Nat), .string ⟨bs.toArray⟩, .slice sp5 m5 c5] 25)
      have hLa := below_heap harr hLb
      obtain ⟨a0, a1, a2, a3⟩ := cells_box hLa
      have p0 := Lib.frozen_of_heap hLa 0
      have p1 := Lib.frozen_of_heap hLa 1
      have p2 := Lib.frozen_of_heap hLa 2
      have p3 := Lib.frozen_of_heap hLa 3
      have HRS := Lib.hid hRS
      have HAp := Lib.hid hAp
      have HE2 := Lib.hid hE2
      have HE3 := Lib.hid hE3
      have HLa := Lib.hid hLa
      have HArr := Lib.hid harr
      clear hRS hAp hE1 hE2 hE3 hLa harr hK hLb r0 r1 r2 r3 q0 q1 q2 q3
      go_wp2
      have hab := heap_alloc_new WR (Obj.cells #[.string ⟨eo.toArray⟩, .int .u16 (en : Nat), .string ⟨es.toArray⟩, .slice sp1 m c1, .string ⟨bo.toArray⟩, .int .u16 (bn : Nat), .string ⟨bs.toArray⟩, .slice sp5 m5 c5] 25)
      rw [hsz5] at hab
      have hlb5 : w5.heap.size ≠ w1.heap.size := by omega
      have hA6 := (four_other (W := WR.alloc (Obj.cells #[.string ⟨eo.toArray⟩, .int .u16 (en : Nat), .string ⟨es.toArray⟩, .slice sp1 m c1, .string ⟨bo.toArray⟩, .int .u16 (bn : Nat), .string ⟨bs.toArray⟩, .slice sp5 m5 c5] 25)) hlb5 (.string ⟨T.toArray⟩) (.int .u16 0) (.string ⟨#[]⟩) (.slice (some ⟨w5.heap.size, 0, none⟩) 2 2)).trans hab
      have hR6 := (four_other (W := WR.alloc (Obj.cells #[.string ⟨eo.toArray⟩, .int .u16 (en : Nat), .string ⟨es.toArray⟩, .slice sp1 m c1, .string ⟨bo.toArray⟩, .int .u16 (bn : Nat), .string ⟨bs.toArray⟩, .slice sp5 m5 c5] 25)) (show rb ≠ w1.heap.size by omega) (.string ⟨T.toArray⟩) (.int .u16 0) (.string ⟨#[]⟩) (.slice (some ⟨w5.heap.size, 0, none⟩) 2 2)).trans (below_heap HArr.out HRS.out)
      have hSt : Stand (fun k => w.heap.size + 1 ≤ k ∧ k ≠ w1.heap.size) WR _ := (Stand.below HArr.out).trans (four_stand _ w1.heap.size (.string ⟨T.toArray⟩) (.int .u16 0) (.string ⟨#[]⟩) (.slice (some ⟨w5.heap.size, 0, none⟩) 2 2) fun k hk => hk.2)
      have hX1 := ExP.keep hSt (fun _ _ _ h _ => h) HE2.out
      have hX2 := ExP.keep hSt (fun _ _ _ h _ => h) HE3.out
      refine ⟨⟨.bin op e b, r2, T, [], 0, 2, 2, i5, some ⟨w5.heap.size, 0, none⟩, rfl, HRr, Lib.hid ?_, Lib.hid (four_set HLa.out _ _ _ _), HD5, Lib.hid (Nat.le_trans Hi1.out (Nat.le_of_succ_le hii5)), Lib.hid hi5, Lib.hid hR6, Lib.hid ((HAp.out.trans (Ap.of HArr.out)).four (by simp; omega) _ _ _ _), Lib.hid ?_⟩, ?_⟩
      · refine ⟨by omega, w5.heap.size, 0, some ⟨w5.heap.size, 0, none⟩, 2, by rw [HTT.out]; rfl, fun _ => ⟨rfl, by omega, hlb5⟩, ?_⟩
        simp only [ListP, and_true]
        exact ⟨hX1.cells (by simp [World.cell?, hA6]) (by simp [World.cell?, hA6]) (by simp [World.cell?, hA6]) (by simp [World.cell?, hA6]), hX2.cells (by simp [World.cell?, hA6]) (by simp [World.cell?, hA6]) (by simp [World.cell?, hA6]) (by simp [World.cell?, hA6])⟩
      · rw [four_size]; simp; omega
      · rw [posOf_rs hR6, posOf_rs HR2.out]; omega
set_option maxHeartbeats 8000000 in
set_option maxRecDepth 100000 in
theorem row5_any (o : Nat) (l : List Tok) (e : RE) (r : List Tok) (x : RE) (r' : List Tok) (hp : Reads (5 + 1) o l e r) (hl : RlR 5 o e r x r')
    (w0 : World) (rb tb c : Nat) (lv : Value) (L : List Tok) (i : Nat) (w : World) (hE : Env w0 rb lv L) (hB : Below w0.heap.size w0 w) (hd : L.drop i = l) (hi : i ≤ L.length) (ho : o ≤ 48) (hR : RS rb lv i (48 - o) w) (htb : tb ≠ rb) (hW : w.heap[tb]? = some (.cells (wordsOf (opsN 5)) 9 (0, 0))) :
    Calls Tryz.prog 75 #[.pointer (some ⟨rb, 0, none⟩), .func (.func 132) #[.pointer (some ⟨rb, 0, none⟩)] #[], .slice (some ⟨tb, 0, none⟩) 5 c] w (Post rb lv L x r' (48 - o) i w) := by
  have hp1 : ∀ w, Below w0.heap.size w0 w → RS rb lv i (48 - o) w → Calls Tryz.prog 132 #[.pointer (some ⟨rb, 0, none⟩)] w (Post rb lv L e r (48 - o) i w) := fun w h1 h2 => hp w0 rb lv L i w hE h1 hd hi ho h2
  have hrb : rb < w.heap.size := (Array.getElem?_eq_some_iff.1 hR).1
  have htw : tb < w.heap.size := (Array.getElem?_eq_some_iff.1 hW).1
  have HE := Lib.hid hE
  have HB := Lib.hid hB
  have HR := Lib.hid hR
  have HW := Lib.hid hW
  have HL := Lib.hid hl
  have HP := Lib.hid hp1
  have HX := Lib.hid (box_below w (Obj.cells #[Value.string ⟨#[]⟩, Value.int .u16 0, Value.string ⟨#[]⟩, Value.slice none 0 0] 25))
  have HXb := Lib.hid (heap_alloc_new w (Obj.cells #[Value.string ⟨#[]⟩, Value.int .u16 0, Value.string ⟨#[]⟩, Value.slice none 0 0] 25))
  clear hE hB hR hW hl hp hp1 hd
  go_enter Tryz.func75, Tryz.ntmps75
  go_wp2_with (first
    | (go_at_call 132; refine (HP.out _ (HB.out.trans (HX.out.mono HB.out.size)) (below_heap HX.out HR.out)).mono ?_; rintro _ w1 ⟨v, i1, rfl, hv, hd1, hii, hi1, hR1, hA1⟩
       have HV := Lib.hid hv
       obtain ⟨X, hX⟩ : ∃ X, toEx e = X := ⟨_, rfl⟩
       rw [hX] at hv
       obtain ⟨eo, en, es, el⟩ := X
       obtain ⟨hn1, b1, o1, sp1, c1, rfl, hsp1, hll1⟩ := hv
       obtain ⟨m, hm⟩ : ∃ m, el.length = m := ⟨_, rfl⟩
       rw [hm] at HV ⊢
       have HR1 := Lib.hid hR1
       have HA1 := Lib.hid hA1
       have HD1 := Lib.hid hd1
       clear hll1 hsp1 hX hm hR1 hA1 hd1))
  have hsz1 : w.heap.size + 1 ≤ w1.heap.size := by have := HA1.out.size; simpa using this
  go_loopw [9] (fun k wr => ∃ (e : RE) (l : List Tok) (eo es : List UInt8) (en m c1 i : Nat) (sp1 : Option Addr), k = .int .i64 0 ∧ Hid (RlR 5 o e l x r') ∧ Hid (ExP (fun k => w.heap.size + 1 ≤ k ∧ k ≠ w1.heap.size) wr (.agg #[.string ⟨eo.toArray⟩, .int .u16 (en : Nat), .string ⟨es.toArray⟩, .slice sp1 m c1]) (toEx e)) ∧
    Hid (wr.heap[w1.heap.size]? = some (.cells #[.string ⟨eo.toArray⟩, .int .u16 (en : Nat), .string ⟨es.toArray⟩, .slice sp1 m c1] 25 (0, 0))) ∧ Hid (L.drop i = l) ∧ Hid (i1 ≤ i) ∧ Hid (i ≤ L.length) ∧ Hid (RS rb lv i (48 - o) wr) ∧
    Hid (Ap rb (w.alloc (Obj.cells #[Value.string ⟨#[]⟩, Value.int .u16 0, Value.string ⟨#[]⟩, Value.slice none 0 0] 25)) wr) ∧ Hid (w1.heap.size < wr.heap.size)) (fun _ wr => L.length - posOf rb wr)
  case atStart =>
    refine ⟨e, r, eo, es, en, m, c1, i1, sp1, rfl, HL, Lib.hid ?_, Lib.hid (heap_alloc_new w1 _), HD1, Lib.hid (Nat.le_refl _), Lib.hid hi1, Lib.hid (below_heap (box_below w1 _) HR1.out), Lib.hid (HA1.out.trans (Ap.of (box_below w1 _))), Lib.hid (by simp)⟩
    refine ExP.keep (Stand.below (box_below w1 _)) (fun k o u hk hc => ⟨by simpa using hk, ?_⟩) HV.out
    have := cell_lt hc
    omega
  case round =>
    obtain ⟨e, l, eo, es, en, m, c1, i2, sp1, rfl, HRl, HV2, HN, HD2, Hi1, Hi2, HR2, HA2, Hsz⟩ := hrel
    have hi2 := Hi2.out
    have htb2 := HA2.out.heap htb (below_heap HX.out HW.out)
    have hpass := pass_any rb lv (.slice (some ⟨tb, 0, none⟩) 5 c) L (opsN 5) i2 (48 - o) wr (HE.out.t.keep (keep_bel (HB.out.trans ((HX.out.mono HB.out.size).trans (HA2.out.below HE.out.b (Nat.le_trans HB.out.size HX.out.size)))))) hi2 HE.out.l HE.out.s HR2.out (words_at htb2 c) (by simp [opsN])
    have HQ := Lib.hid hpass
    clear hpass htb2
    cases HRl.out with
    | stop _ _ hst =>
      have hf := head_drop HD2.out (opsN 5) hst
      have hq := HQ.out
      rw [hf] at hq
      simp only [Bool.false_eq_true, if_false] at hq
      have HS := Lib.hid hq
      clear hq hf hst
      go_wp2_with (first
        | (go_at_call 94; refine HS.out.mono ?_; rintro _ w4 ⟨rfl, hR4, hA4⟩
           obtain ⟨d0, d1, d2, d3⟩ := cells_box (hA4.heap (show w1.heap.size ≠ rb by omega) HN.out)
           have HG := Lib.hid (hA4.heap (show w.heap.size ≠ rb by omega) (HA2.out.heap (show w.heap.size ≠ rb by omega) HXb.out))
           obtain ⟨g0, g1, g2, g3⟩ := cells_box HG.out
           have f0 := Lib.frozen_of_heap HG.out 0
           have f1 := Lib.frozen_of_heap HG.out 1
           have f2 := Lib.frozen_of_heap HG.out 2
           have f3 := Lib.frozen_of_heap HG.out 3
           have HR4 := Lib.hid hR4
           have HA4 := Lib.hid hA4
           clear hR4 hA4))
      refine finE rfl rfl rfl (four_set HG.out _ _ _ _) rfl ?_
      refine ⟨_, i2, rfl, ExP.keep ((HA4.out.stand (P := fun k => w.heap.size + 1 ≤ k ∧ k ≠ w1.heap.size) fun k hk => by omega).trans (four_stand w4 w.heap.size _ _ _ _ fun k hk => by omega)) (fun k _ _ hk _ => by show w.heap.size ≤ k; omega) HV2.out, HD2.out, Nat.le_trans hii Hi1.out, hi2, ?_, ?_⟩
      · exact (four_other (show rb ≠ w.heap.size by omega) _ _ _ _).trans HR4.out
      · exact ((Ap.of HX.out).trans (HA2.out.trans HA4.out)).four (Nat.le_refl _) _ _ _ _
    | on _ op u b r2 _ _ hop hrd hrl =>
      obtain ⟨ht, hd3, hi3⟩ := drop_some HD2.out
      have hq := HQ.out
      have hps := pass_tok2 op
      rw [hop] at hps
      rw [ht, Option.getD_some, hps] at hq
      simp only [if_true, tok2_s] at hq
      have hem := isEmpty_mk (txt2_ne op)
      obtain ⟨T, hT⟩ : ∃ T, txt2 op = T := ⟨_, rfl⟩
      rw [hT] at hq hem
      have HS := Lib.hid hq
      have HO := Lib.hid hop
      have HRd := Lib.hid hrd
      have HRr := Lib.hid hrl
      have HTT := Lib.hid hT
      have HD3 := Lib.hid hd3
      have HI3 := Lib.hid hi3
      clear hq hop hrd hrl hT hd3 hi3 ht hps
      go_upto_region 7 with (first
        | (go_at_call 94; refine HS.out.mono ?_; rintro _ w4 ⟨rfl, hR4, hA4⟩
           have HR4 := Lib.hid hR4
           have HA4 := Lib.hid hA4
           have HX4 := Lib.hid (box_below w4 (Obj.cells #[Value.string ⟨#[]⟩, Value.int .u16 0, Value.string ⟨#[]⟩, Value.slice none 0 0] 25))
           have HXb4 := Lib.hid (heap_alloc_new w4 (Obj.cells #[Value.string ⟨#[]⟩, Value.int .u16 0, Value.string ⟨#[]⟩, Value.slice none 0 0] 25))
           have hs4 : w1.heap.size < w4.heap.size := Nat.lt_of_lt_of_le Hsz.out hA4.size
           have HL4 := Lib.hid (hA4.heap (show w1.heap.size ≠ rb by omega) HN.out)
           clear hR4 hA4)
        | (go_at_call 132; refine (HRd.out w0 rb lv L (i2 + 1) _ HE.out (HB.out.trans ((HX.out.mono HB.out.size).trans (((HA2.out.trans HA4.out).trans (Ap.of HX4.out)).below HE.out.b (Nat.le_trans HB.out.size HX.out.size)))) HD3.out HI3.out ho (below_heap HX4.out HR4.out)).mono ?_; rintro _ w5 ⟨v5, i5, rfl, hv5, hd5, hii5, hi5, hR5, hA5⟩
           have HV5 := Lib.hid hv5
           obtain ⟨Y, hY⟩ : ∃ Y, toEx b = Y := ⟨_, rfl⟩
           rw [hY] at hv5
           obtain ⟨bo, bn, bs, bl⟩ := Y
           obtain ⟨hn5, b5, o5, sp5, c5, rfl, hsp5, hll5⟩ := hv5
           obtain ⟨m5, hm5⟩ : ∃ m, bl.length = m := ⟨_, rfl⟩
           rw [hm5] at HV5 ⊢
           have HR5 := Lib.hid hR5
           have HA5 := Lib.hid hA5
           have HD5 := Lib.hid hd5
           have hs5 : w4.heap.size + 1 ≤ w5.heap.size := by have := hA5.size; simpa using this
           have hrk := hA5.heap (show w4.heap.size ≠ rb by omega) HXb4.out
           obtain ⟨r0, r1, r2, r3⟩ := cells_box hrk
           have q0 := Lib.frozen_of_heap hrk 0
           have q1 := Lib.frozen_of_heap hrk 1
           have q2 := Lib.frozen_of_heap hrk 2
           have q3 := Lib.frozen_of_heap hrk 3
           have HRK := Lib.hid hrk
           clear hll5 hsp5 hY hm5 hR5 hA5 hd5 hrk))
      have hrkb : w4.heap.size ≠ rb := by omega
      have hlk : w1.heap.size ≠ w4.heap.size := by omega
      have hK := four_set HRK.out (.string ⟨bo.toArray⟩) (.int .u16 (bn : Nat)) (.string ⟨bs.toArray⟩) (.slice sp5 m5 c5)
      have hLb := (four_other (W := w5) hlk (.string ⟨bo.toArray⟩) (.int .u16 (bn : Nat)) (.string ⟨bs.toArray⟩) (.slice sp5 m5 c5)).trans (HA5.out.heap (show w1.heap.size ≠ rb by omega) (below_heap HX4.out HL4.out))
      have hRS := (four_other (W := w5) (show rb ≠ w4.heap.size by omega) (.string ⟨bo.toArray⟩) (.int .u16 (bn : Nat)) (.string ⟨bs.toArray⟩) (.slice sp5 m5 c5)).trans HR5.out
      have hAp := (HA2.out.trans (HA4.out.trans ((Ap.of HX4.out).trans HA5.out))).four (k := w4.heap.size) (by simp; omega) (.string ⟨bo.toArray⟩) (.int .u16 (bn : Nat)) (.string ⟨bs.toArray⟩) (.slice sp5 m5 c5)
      have hsz5 := four_size w5 w4.heap.size (.string ⟨bo.toArray⟩) (.int .u16 (bn : Nat)) (.string ⟨bs.toArray⟩) (.slice sp5 m5 c5)
      have hE1 : ExP (fun k => w.heap.size + 1 ≤ k ∧ k ≠ w1.heap.size ∧ k ≠ w4.heap.size) wr (.agg #[.string ⟨eo.toArray⟩, .int .u16 (en : Nat), .string ⟨es.toArray⟩, .slice sp1 m c1]) (toEx e) := ExP.keep (fun _ _ _ _ h => h) (fun k o u hk hc => ⟨hk.1, hk.2, by have := cell_lt hc; have := HA4.out.size; omega⟩) HV2.out
      have hE2 := ExP.keep (Q := fun k => w.heap.size + 1 ≤ k ∧ k ≠ w1.heap.size) (((HA4.out.stand (P := fun k => w.heap.size + 1 ≤ k ∧ k ≠ w1.heap.size ∧ k ≠ w4.heap.size) fun k hk => by omega).trans (Stand.below HX4.out)).trans ((HA5.out.stand fun k hk => by omega).trans (four_stand w5 w4.heap.size (.string ⟨bo.toArray⟩) (.int .u16 (bn : Nat)) (.string ⟨bs.toArray⟩) (.slice sp5 m5 c5) fun k hk => by omega))) (fun k _ _ hk _ => ⟨hk.1, hk.2.1⟩) hE1
      have hE3 := ExP.keep (Q := fun k => w.heap.size + 1 ≤ k ∧ k ≠ w1.heap.size) (four_stand w5 w4.heap.size (.string ⟨bo.toArray⟩) (.int .u16 (bn : Nat)) (.string ⟨bs.toArray⟩) (.slice sp5 m5 c5) fun k hk => by have : (w4.alloc (Obj.cells #[Value.string ⟨#[]⟩, Value.int .u16 0, Value.string ⟨#[]⟩, Value.slice none 0 0] 25)).heap.size ≤ k := hk; simp at this; omega) (fun k _ _ hk _ => by have : (w4.alloc (Obj.cells #[Value.string ⟨#[]⟩, Value.int .u16 0, Value.string ⟨#[]⟩, Value.slice none 0 0] 25)).heap.size ≤ k := hk; simp at this; omega) HV5.out
      generalize ((((w5.setCell ⟨w4.heap.size, 0, none⟩ (.string ⟨bo.toArray⟩)).setCell ⟨w4.heap.size, 1, none⟩ (.int .u16 (bn : Nat))).setCell ⟨w4.heap.size, 2, none⟩ (.string ⟨bs.toArray⟩)).setCell ⟨w4.heap.size, 3, none⟩ (.slice sp5 m5 c5)) = WR at hK hLb hRS hAp hsz5 hE2 hE3 ⊢
      obtain ⟨s0, s1, s2, s3⟩ := cells_box hK
      obtain ⟨t0, t1, t2, t3⟩ := cells_box hLb
      have harr := box_below WR (Obj.cells #[.string ⟨eo.toArray⟩, .int .u16 (en : Nat), .string ⟨es.toArray⟩, .slice sp1 m c1, .string ⟨bo.toArray⟩, .int .u16 (bn : Nat), .string ⟨bs.toArray⟩, .slice sp5 m5 c5] 25)
      have hLa := below_heap harr hLb
      obtain ⟨a0, a1, a2, a3⟩ := cells_box hLa
      have p0 := Lib.frozen_of_heap hLa 0
      have p1 := Lib.frozen_of_heap hLa 1
      have p2 := Lib.frozen_of_heap hLa 2
      have p3 := Lib.frozen_of_heap hLa 3
      have HRS := Lib.hid hRS
      have HAp := Lib.hid hAp
      have HE2 := Lib.hid hE2
      have HE3 := Lib.hid hE3
      have HLa := Lib.hid hLa
      have HArr := Lib.hid harr
      clear hRS hAp hE1 hE2 hE3 hLa harr hK hLb r0 r1 r2 r3 q0 q1 q2 q3
      go_wp2
      have hab := heap_alloc_new WR (Obj.cells #[.string ⟨eo.toArray⟩, .int .u16 (en : Nat), .string ⟨es.toArray⟩, .slice sp1 m c1, .string ⟨bo.toArray⟩, .int .u16 (bn : Nat), .string ⟨bs.toArray⟩, .slice sp5 m5 c5] 25)
      rw [hsz5] at hab
      have hlb5 : w5.heap.size ≠ w1.heap.size := by omega
      have hA6 := (four_other (W := WR.alloc (Obj.cells #[.string ⟨eo.toArray⟩, .int .u16 (en : Nat), .string ⟨es.toArray⟩, .slice sp1 m c1, .string ⟨bo.toArray⟩, .int .u16 (bn : Nat), .string ⟨bs.toArray⟩, .slice sp5 m5 c5] 25)) hlb5 (.string ⟨T.toArray⟩) (.int .u16 0) (.string ⟨#[]⟩) (.slice (some ⟨w5.heap.size, 0, none⟩) 2 2)).trans hab
      have hR6 := (four_other (W := WR.alloc (Obj.cells #[.string ⟨eo.toArray⟩, .int .u16 (en : Nat), .string ⟨es.toArray⟩, .slice sp1 m c1, .string ⟨bo.toArray⟩, .int .u16 (bn : Nat), .string ⟨bs.toArray⟩, .slice sp5 m5 c5] 25)) (show rb ≠ w1.heap.size by omega) (.string ⟨T.toArray⟩) (.int .u16 0) (.string ⟨#[]⟩) (.slice (some ⟨w5.heap.size, 0, none⟩) 2 2)).trans (below_heap HArr.out HRS.out)
      have hSt : Stand (fun k => w.heap.size + 1 ≤ k ∧ k ≠ w1.heap.size) WR _ := (Stand.below HArr.out).trans (four_stand _ w1.heap.size (.string ⟨T.toArray⟩) (.int .u16 0) (.string ⟨#[]⟩) (.slice (some ⟨w5.heap.size, 0, none⟩) 2 2) fun k hk => hk.2)
      have hX1 := ExP.keep hSt (fun _ _ _ h _ => h) HE2.out
      have hX2 := ExP.keep hSt (fun _ _ _ h _ => h) HE3.out
      refine ⟨⟨.bin op e b, r2, T, [], 0, 2, 2, i5, some ⟨w5.heap.size, 0, none⟩, rfl, HRr, Lib.hid ?_, Lib.hid (four_set HLa.out _ _ _ _), HD5, Lib.hid (Nat.le_trans Hi1.out (Nat.le_of_succ_le hii5)), Lib.hid hi5, Lib.hid hR6, Lib.hid ((HAp.out.trans (Ap.of HArr.out)).four (by simp; omega) _ _ _ _), Lib.hid ?_⟩, ?_⟩
      · refine ⟨by omega, w5.heap.size, 0, some ⟨w5.heap.size, 0, none⟩, 2, by rw [HTT.out]; rfl, fun _ => ⟨rfl, by omega, hlb5⟩, ?_⟩
        simp only [ListP, and_true]
        exact ⟨hX1.cells (by simp [World.cell?, hA6]) (by simp [World.cell?, hA6]) (by simp [World.cell?, hA6]) (by simp [World.cell?, hA6]), hX2.cells (by simp [World.cell?, hA6]) (by simp [World.cell?, hA6]) (by simp [World.cell?, hA6]) (by simp [World.cell?, hA6])⟩
      · rw [four_size]; simp; omega
      · rw [posOf_rs hR6, posOf_rs HR2.out]; omega
end Go.Proofs.YtaoeipbofhkkcaaGreatDoor
