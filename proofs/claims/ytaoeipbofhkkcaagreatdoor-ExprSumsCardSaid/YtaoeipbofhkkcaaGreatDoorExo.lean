/- How an expression is read from an argument; over any program. -/
import Derived.Test.YtaoeipbofhkkcaaGreatDoorExm
import Derived.Test.YtaoeipbofhkkcaaGreatDoorTokOpen
namespace Go.Proofs.YtaoeipbofhkkcaaGreatDoor
open Go.ChangeShapes Go.WideShapes Go.ChangeAt Go.WideMaps Go.WideElems Go.RowKit Go.Deep

/-! ### reading -/
section
variable {H : Type} {enc : TypeId × Value → H} {P : Program} {W : World} {base : Nat} {spare : Nat → Bool} {held : Bool}
theorem open_quad {fuel : Nat} {e : TypeId} {f0 f1 f2 f3 : Field} {cs : List Value} {x : DataW H × List MemPlace}
    (he : P.underlying e = some (.struct #[f0, f1, f2, f3])) (o0 : f0.offset = 0) (o1 : f1.offset = 1) (o2 : f2.offset = 2) (o3 : f3.offset = 3) (c0 : P.cellsOf f0.type = 1) (c1 : P.cellsOf f1.type = 1) (c2 : P.cellsOf f2.type = 1) (c3 : P.cellsOf f3.type = 1)
    (h : DataW.trod enc P W base spare held fuel e cs = some x) (hlen : cs.length = 4) :
    ∃ v0 v1 v2 v3 y0 y1 y2 y3 k, fuel = k + 1 ∧ cs = [v0, v1, v2, v3] ∧ DataW.trod enc P W base spare held k f0.type [v0] = some y0 ∧ DataW.trod enc P W base spare held k f1.type [v1] = some y1 ∧ DataW.trod enc P W base spare held k f2.type [v2] = some y2 ∧ DataW.trod enc P W base spare held k f3.type [v3] = some y3 := by
  obtain ⟨xs, k, hk, hxy, _, hxl, hf⟩ := DataW.trod_struct he h
  match xs, hxl, cs, hlen with
  | [y0, y1, y2, y3], _, [v0, v1, v2, v3], _ =>
    have g0 := hf 0 f0 rfl
    have g1 := hf 1 f1 rfl
    have g2 := hf 2 f2 rfl
    have g3 := hf 3 f3 rfl
    simp [o0, o1, o2, o3, c0, c1, c2, c3] at g0 g1 g2 g3
    exact ⟨v0, v1, v2, v3, y0, y1, y2, y3, k, hk, rfl, g0, g1, g2, g3⟩
theorem exs_open {tS tE tO tN : TypeId} {f0 f1 f2 f3 : Field} (hS : P.underlying tS = some (.slice tE)) (hE : P.underlying tE = some (.struct #[f0, f1, f2, f3])) (o0 : f0.offset = 0) (o1 : f1.offset = 1) (o2 : f2.offset = 2) (o3 : f3.offset = 3)
    (t0 : f0.type = tO) (t1 : f1.type = tN) (t2 : f2.type = tO) (t3 : f3.type = tS) (hO : P.underlying tO = some .string) (hN : P.underlying tN = some (.int .u16)) (cO : P.cellsOf tO = 1) (cN : P.cellsOf tN = 1) (cS : P.cellsOf tS = 1) (cE : P.cellsOf tE = 4) :
    ∀ (N fuel : Nat), fuel ≤ N →
      (∀ cs x, DataW.trod enc P W base spare held fuel tE cs = some x → cs.length = 4 → ∃ v0 v1 v2 v3 e, cs = [v0, v1, v2, v3] ∧ ExV W (.agg #[v0, v1, v2, v3]) e) ∧
      (∀ v x, DataW.trod enc P W base spare held fuel tS [v] = some x → ∃ l b o sp c, v = .slice sp l.length c ∧ (0 < l.length → sp = some ⟨b, o, none⟩) ∧ ListAt W l b o)
  | 0, fuel, hf => by
    obtain rfl : fuel = 0 := by omega
    exact ⟨fun cs x h => by simp [DataW.trod] at h, fun v x h => by simp [DataW.trod] at h⟩
  | N + 1, fuel, hf => by
    refine ⟨fun cs x h hlen => ?_, fun v x h => ?_⟩
    · obtain ⟨v0, v1, v2, v3, y0, y1, y2, y3, k, hk, rfl, g0, g1, g2, g3⟩ := open_quad hE o0 o1 o2 o3 (by rw [t0]; exact cO) (by rw [t1]; exact cN) (by rw [t2]; exact cO) (by rw [t3]; exact cS) h hlen
      rw [t0] at g0
      rw [t1] at g1
      rw [t2] at g2
      rw [t3] at g3
      obtain ⟨s0, q0, _, _⟩ := DataW.trod_string hO g0
      obtain ⟨z1, q1, _, w1⟩ := DataW.trod_int hN g1
      obtain ⟨s2, q2, _, _⟩ := DataW.trod_string hO g2
      simp only [List.cons.injEq, and_true] at q0 q1 q2
      obtain ⟨n, hn, hz⟩ := u16_nat w1
      obtain ⟨l, b, o, sp, c, hv, hsp, hl⟩ := (exs_open hS hE o0 o1 o2 o3 t0 t1 t2 t3 hO hN cO cN cS cE N k (by omega)).2 v3 _ g3
      exact ⟨v0, v1, v2, v3, .mk s0.data.toList n s2.data.toList l, rfl, hn, b, o, sp, c, by rw [q0, q1, q2, hz, hv], hsp, hl⟩
    · rcases DataW.trod_slice hS h with ⟨hcs, _⟩ | ⟨a, len, cap, elems, rest, n, hfn, hcs, _, hb, hl, hm, hlen, hel, _, _⟩
      · simp only [List.cons.injEq, and_true] at hcs
        subst hcs
        exact ⟨[], 0, 0, none, 0, rfl, fun h => absurd h (by simp), by simp only [ListAt]⟩
      · simp only [List.cons.injEq, and_true] at hcs
        subst hcs
        have each : ∀ i, i < len → ∃ e : Ex, ∃ v0 v1 v2 v3, W.cell? (a.add (i * 4)) = some v0 ∧ W.cell? (a.add (i * 4 + 1)) = some v1 ∧ W.cell? (a.add (i * 4 + 2)) = some v2 ∧ W.cell? (a.add (i * 4 + 3)) = some v3 ∧ ExV W (.agg #[v0, v1, v2, v3]) e := fun i hi => by
          have key := hel i hi
          rw [cE, List.getElem?_eq_getElem (by omega)] at key
          obtain ⟨cs', h1, h2⟩ := Option.bind_eq_some_iff.1 key
          obtain ⟨_, hcl, hcell⟩ := World.cells?_some h1
          obtain ⟨v0, v1, v2, v3, e, rfl, he⟩ := (exs_open hS hE o0 o1 o2 o3 t0 t1 t2 t3 hO hN cO cN cS cE N n (by omega)).1 cs' _ h2 hcl
          have e0 := hcell 0 (by omega)
          have e1 := hcell 1 (by omega)
          have e2 := hcell 2 (by omega)
          have e3 := hcell 3 (by omega)
          rw [add_add] at e0 e1 e2 e3
          exact ⟨e, v0, v1, v2, v3, by simpa using e0, by simpa using e1, by simpa using e2, by simpa using e3, he⟩
        obtain ⟨f, hf⟩ := choose_lt each
        by_cases h0 : len = 0
        · subst h0
          exact ⟨[], 0, 0, some a, cap, rfl, fun h => absurd h (by simp), by simp only [ListAt]⟩
        · obtain ⟨b, off, spot⟩ := a
          have hspot : spot = none := by
            obtain ⟨v0, v1, v2, v3, h1, _⟩ := hf 0 (by omega)
            simpa [Addr.add] using World.cell?_spot h1
          subst hspot
          refine ⟨(List.range len).map f, b, off, _, cap, by simp, fun _ => rfl, ListAt.of _ b off fun i e hi => ?_⟩
          rw [List.getElem?_map] at hi
          by_cases hil : i < len
          · rw [List.getElem?_range hil] at hi
            simp only [Option.map_some, Option.some.injEq] at hi
            subst hi
            obtain ⟨v0, v1, v2, v3, h1, h2, h3, h4, he⟩ := hf i hil
            rw [Addr.add_mid] at h1 h2 h3 h4
            exact he.cells h1 h2 h3 h4
          · rw [List.getElem?_eq_none (by simpa using hil)] at hi
            cases hi
theorem open_pair2 {fuel : Nat} {e : TypeId} {f0 f1 : Field} {cs : List Value} {x : DataW H × List MemPlace}
    (he : P.underlying e = some (.struct #[f0, f1])) (o0 : f0.offset = 0) (o1 : f1.offset = 1) (c0 : P.cellsOf f0.type = 1) (c1 : P.cellsOf f1.type = 1)
    (h : DataW.trod enc P W base spare held fuel e cs = some x) (hlen : cs.length = 2) :
    ∃ v0 v1 y0 y1 k, cs = [v0, v1] ∧ DataW.trod enc P W base spare held k f0.type [v0] = some y0 ∧ DataW.trod enc P W base spare held k f1.type [v1] = some y1 := by
  obtain ⟨xs, k, hk, hxy, _, hxl, hf⟩ := DataW.trod_struct he h
  match xs, hxl, cs, hlen with
  | [y0, y1], _, [v0, v1], _ =>
    have g0 := hf 0 f0 rfl
    have g1 := hf 1 f1 rfl
    simp [o0, o1, c0, c1] at g0 g1
    exact ⟨v0, v1, y0, y1, k, rfl, g0, g1⟩
/-- symbols that an argument holds, as rows of two cells -/
theorem syms_open {tS tE tO tN : TypeId} {f0 f1 : Field} (hS : P.underlying tS = some (.slice tE)) (hE : P.underlying tE = some (.struct #[f0, f1])) (o0 : f0.offset = 0) (o1 : f1.offset = 1)
    (t0 : f0.type = tO) (t1 : f1.type = tN) (hO : P.underlying tO = some .string) (hN : P.underlying tN = some (.int .u16)) (cO : P.cellsOf tO = 1) (cN : P.cellsOf tN = 1) (cE : P.cellsOf tE = 2)
    {fuel : Nat} {v : Value} {x : DataW H × List MemPlace} (h : DataW.trod enc P W base spare held fuel tS [v] = some x) :
    ∃ l : List (List UInt8 × Nat), ∃ b o sp c, v = .slice sp l.length c ∧ (0 < l.length → sp = some ⟨b, o, none⟩) ∧
      ∀ (i : Nat) (x : List UInt8 × Nat), l[i]? = some x → W.cell? ⟨b, o + i * 2, none⟩ = some (.string ⟨x.1.toArray⟩) ∧ W.cell? ⟨b, o + i * 2 + 1, none⟩ = some (.int .u16 (x.2 : Nat)) ∧ x.2 ≤ 65535 := by
  rcases open_slice hS h with ⟨hcs, _⟩ | ⟨a, len, cap, m, n, D, Pl, hcs, _, hl, _, hm, _, hx⟩
  · simp only [List.cons.injEq, and_true] at hcs
    subst hcs
    exact ⟨[], 0, 0, none, 0, rfl, fun h => absurd h (by simp), fun i x hi => by simp at hi⟩
  · simp only [List.cons.injEq, and_true] at hcs
    subst hcs
    have hlm : len ≤ m := by rw [hm]; split <;> omega
    have each : ∀ i, i < m → ∃ q : List UInt8 × Nat, W.cell? (a.add (i * 2)) = some (.string ⟨q.1.toArray⟩) ∧ W.cell? (a.add (i * 2 + 1)) = some (.int .u16 (q.2 : Nat)) ∧ q.2 ≤ 65535 := fun i hi => by
      obtain ⟨cs', h1, h2⟩ := hx i hi
      rw [cE] at h1
      obtain ⟨_, hlen, hcell⟩ := World.cells?_some h1
      obtain ⟨v0, v1, y0, y1, k, rfl, g0, g1⟩ := open_pair2 hE o0 o1 (by rw [t0]; exact cO) (by rw [t1]; exact cN) h2 hlen
      rw [t0] at g0
      rw [t1] at g1
      have e0 := hcell 0 (by omega)
      have e1 := hcell 1 (by omega)
      rw [add_add] at e0 e1
      obtain ⟨z0, q0, _, _⟩ := DataW.trod_string hO g0
      obtain ⟨z1, q1, _, w1⟩ := DataW.trod_int hN g1
      simp only [List.cons.injEq, and_true] at q0 q1
      obtain ⟨n1, hle, hn1⟩ := u16_nat w1
      refine ⟨(z0.data.toList, n1), ?_, ?_, hle⟩
      · simpa [q0] using e0
      · simpa [q1, hn1] using e1
    obtain ⟨f, hf⟩ := choose_lt each
    by_cases h0 : len = 0
    · subst h0
      exact ⟨[], 0, 0, some a, cap, rfl, fun h => absurd h (by simp), fun i x hi => by simp at hi⟩
    · obtain ⟨b, off, spot⟩ := a
      have hspot : spot = none := by
        have := (hf 0 (by omega)).1
        simpa [Addr.add] using World.cell?_spot this
      subst hspot
      refine ⟨(List.range len).map f, b, off, _, cap, by simp, fun _ => rfl, fun i x hi => ?_⟩
      rw [List.getElem?_map] at hi
      by_cases hil : i < len
      · rw [List.getElem?_range hil] at hi
        simp only [Option.map_some, Option.some.injEq] at hi
        subst hi
        obtain ⟨h1, h2, h3⟩ := hf i (by omega)
        rw [Addr.add_mid] at h1 h2
        exact ⟨h1, h2, h3⟩
      · rw [List.getElem?_eq_none (by simpa using hil)] at hi
        cases hi
end
end Go.Proofs.YtaoeipbofhkkcaaGreatDoor
