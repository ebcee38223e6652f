/- From a row's reading of a list of tokens to what the walks are told; what the law's Light says of them. -/
import Derived.Test.YtblbcdofiheikaaDoorTokArgs
import Derived.Test.YtblbcdofiheikaaDoorToks
import Derived.Deep.SlicePairs
import Derived.Deep.MidRow
namespace Go.Proofs.YtblbcdofiheikaaDoor
open Go.ChangeShapes Go.WideShapes Go.ChangeAt Go.WideMaps Go.WideElems Go.RowKit Go.Deep

theorem struct41 : Tryd.prog.underlying 41 = some (.struct #[{ name := "Kind", type := 3, offset := 0, embedded := false, tag := "", pkgPath := "", byteOffset := 0 }, { name := "S", type := 9, offset := 1, embedded := false, tag := "", pkgPath := "", byteOffset := 8 }, { name := "N", type := 39, offset := 2, embedded := false, tag := "", pkgPath := "", byteOffset := 24 }]) := by kernel_rfl
theorem cells41 : Tryd.prog.cellsOf 41 = 3 := by kernel_rfl
theorem cellsO3 : Tryd.prog.cellsOf 3 = 1 := by kernel_rfl
theorem cellsO9 : Tryd.prog.cellsOf 9 = 1 := by kernel_rfl
theorem cellsO39 : Tryd.prog.cellsOf 39 = 1 := by kernel_rfl
theorem open_triple {H : Type} {enc : TypeId × Value → H} {P : Program} {W : World} {base : Nat} {spare : Nat → Bool} {held : Bool} {fuel : Nat} {e : TypeId} {f0 f1 f2 : Field} {cs : List Value} {x : DataW H × List MemPlace}
    (he : P.underlying e = some (.struct #[f0, f1, f2])) (o0 : f0.offset = 0) (o1 : f1.offset = 1) (o2 : f2.offset = 2) (c0 : P.cellsOf f0.type = 1) (c1 : P.cellsOf f1.type = 1) (c2 : P.cellsOf f2.type = 1)
    (h : DataW.trod enc P W base spare held fuel e cs = some x) (hlen : cs.length = 3) :
    ∃ v0 v1 v2 y0 y1 y2 k, cs = [v0, v1, v2] ∧ DataW.trod enc P W base spare held k f0.type [v0] = some y0 ∧ DataW.trod enc P W base spare held k f1.type [v1] = some y1 ∧ DataW.trod enc P W base spare held k f2.type [v2] = some y2 := by
  obtain ⟨xs, k, hk, hxy, _, hxl, hf⟩ := DataW.trod_struct he h
  match xs, hxl, cs, hlen with
  | [y0, y1, y2], _, [v0, v1, v2], _ =>
    have g0 := hf 0 f0 rfl
    have g1 := hf 1 f1 rfl
    have g2 := hf 2 f2 rfl
    simp [o0, o1, o2, c0, c1, c2] at g0 g1 g2
    exact ⟨v0, v1, v2, y0, y1, y2, k, rfl, g0, g1, g2⟩
theorem toks_of_trod {H : Type} {enc : TypeId × Value → H} {W : World} {base : Nat} {spare : Nat → Bool} {held : Bool} {fuel : Nat} {v : Value} {x : DataW H × List MemPlace} (h : DataW.trod enc Tryd.prog W base spare held fuel 27 [v] = some x) :
    ∃ l, TokR W v l := by
  rcases open_slice Tryd.underlying27 h with ⟨hcs, _⟩ | ⟨a, len, cap, m, n, D, Pl, hcs, _, hl, _, hm, _, hx⟩
  · simp only [List.cons.injEq, and_true] at hcs
    subst hcs
    exact ⟨[], 0, 0, none, 0, rfl, fun h => absurd h (by simp), fun i x hi => by simp at hi⟩
  · simp only [List.cons.injEq, and_true] at hcs
    subst hcs
    have hlm : len ≤ m := by rw [hm]; split <;> omega
    have each : ∀ i, i < m → ∃ q : Int × List UInt8 × Nat, W.cell? (a.add (i * 3)) = some (.int .i64 q.1) ∧ W.cell? (a.add (i * 3 + 1)) = some (.string ⟨q.2.1.toArray⟩) ∧ W.cell? (a.add (i * 3 + 2)) = some (.int .u16 (q.2.2 : Nat)) := fun i hi => by
      obtain ⟨cs', h1, h2⟩ := hx i hi
      rw [cells41] at h1
      obtain ⟨_, hlen, hcell⟩ := World.cells?_some h1
      obtain ⟨v0, v1, v2, y0, y1, y2, k, rfl, g0, g1, g2⟩ := open_triple struct41 rfl rfl rfl cellsO3 cellsO9 cellsO39 h2 hlen
      have e0 := hcell 0 (by omega)
      have e1 := hcell 1 (by omega)
      have e2 := hcell 2 (by omega)
      rw [add_add] at e0 e1 e2
      obtain ⟨z0, q0, _, _⟩ := DataW.trod_int Tryd.underlying3 g0
      obtain ⟨z1, q1, _, _⟩ := DataW.trod_string Tryd.underlying9 g1
      obtain ⟨z2, q2, _, w2⟩ := DataW.trod_int Tryd.underlying39 g2
      simp only [List.cons.injEq, and_true] at q0 q1 q2
      obtain ⟨n2, _, hn2⟩ := u16_nat w2
      refine ⟨(z0, z1.data.toList, n2), ?_, ?_, ?_⟩
      · simpa [q0] using e0
      · simpa [q1] using e1
      · simpa [q2, hn2] using e2
    obtain ⟨f, hf⟩ := choose_lt each
    by_cases h0 : len = 0
    · subst h0
      exact ⟨[], 0, 0, some a, cap, rfl, fun h => absurd h (by simp), fun i x hi => by simp at hi⟩
    · obtain ⟨b, off, spot⟩ := a
      have hspot : spot = none := by
        have := (hf 0 (by omega)).1
        simpa [Addr.add] using World.cell?_spot this
      subst hspot
      refine ⟨(List.range len).map fun i => ⟨(f i).1, (f i).2.1, (f i).2.2⟩, b, off, _, cap, by simp, fun _ => rfl, fun i x hi => ?_⟩
      rw [List.getElem?_map] at hi
      by_cases hil : i < len
      · rw [List.getElem?_range hil] at hi
        simp only [Option.map_some, Option.some.injEq] at hi
        subst hi
        obtain ⟨h1, h2, h3⟩ := hf i (by omega)
        rw [Addr.add_mid] at h1 h2 h3
        exact ⟨h1, h2, h3⟩
      · rw [List.getElem?_eq_none (by simpa using hil)] at hi
        cases hi

def lightT (l : List Tok) : Bool := decide (l.length ≤ 100) && l.all fun x => decide (x.s.length ≤ 200)
set_option maxHeartbeats 1000000 in
theorem light_any (v : Value) (l : List Tok) (w : World) (h : TokR w v l) : Calls Tryd.prog 14 #[v] w fun e w' => e = .returned (.bool (lightT l)) ∧ w' = w := by
  obtain ⟨b, o, sp, c, rfl, hsp, hc⟩ := h
  obtain ⟨n, hn⟩ : ∃ n, l.length = n := ⟨_, rfl⟩
  rw [hn] at hsp ⊢
  have HN := Lib.hid hn
  have HC := Lib.hid hc
  clear hn hc
  by_cases h100 : n ≤ 100
  · go_enter Tryd.func14, Tryd.ntmps14
    go_wp2
    go_loop [3] (fun i => ∃ k : Nat, k ≤ n ∧ i = .int .i64 k ∧ Hid (∀ x ∈ l.take k, x.s.length ≤ 200)) (fun i => n - (intOf i).toNat)
    case atStart => exact ⟨0, by omega, rfl, Lib.hid (by simp)⟩
    case round =>
      obtain ⟨k, hk, rfl, HQ⟩ := hrel
      by_cases hlt : k < n
      · obtain rfl := hsp (by omega)
        obtain ⟨x, hx⟩ : ∃ x, l[k]? = some x := ⟨_, List.getElem?_eq_getElem (by rw [HN.out]; exact hlt)⟩
        obtain ⟨x1, x2, x3⟩ := HC.out k x hx
        have HX := Lib.hid hx
        clear hx x3 x1
        have hts := size_mk x.s
        obtain ⟨T, hT⟩ : ∃ T : ByteArray, (⟨x.s.toArray⟩ : ByteArray) = T := ⟨_, rfl⟩
        rw [hT] at hts x2
        clear hT
        have HTS := Lib.hid hts
        clear hts
        by_cases hL : T.size ≤ 200
        · go_wp2
          refine ⟨⟨k + 1, by omega, by go_num, Lib.hid ?_⟩, by simp [intOf]; omega⟩
          rw [List.take_add_one, HX.out]
          intro y hy
          rcases List.mem_append.1 hy with hy | hy
          · exact HQ.out y hy
          · obtain rfl : y = x := by simpa using hy
            rw [← HTS.out]; exact hL
        · go_wp2
          go_ret
          refine ⟨ret_bool ?_, rfl⟩
          symm
          rw [Bool.eq_false_iff]
          intro h
          simp only [lightT, Bool.and_eq_true, List.all_eq_true, decide_eq_true_eq] at h
          have := h.2 x (List.mem_of_getElem? HX.out)
          rw [← HTS.out] at this
          exact hL this
      · obtain rfl : k = n := by omega
        go_wp2
        go_ret
        refine ⟨ret_bool ?_, rfl⟩
        symm
        simp only [lightT, Bool.and_eq_true, List.all_eq_true, decide_eq_true_eq]
        have := HQ.out
        rw [List.take_of_length_le (by rw [HN.out]; exact Nat.le_refl _)] at this
        exact ⟨by rw [HN.out]; exact h100, this⟩
  · go_enter Tryd.func14, Tryd.ntmps14
    go_wp2
    go_ret
    refine ⟨ret_bool ?_, rfl⟩
    symm
    rw [Bool.eq_false_iff]
    intro h
    simp only [lightT, Bool.and_eq_true, decide_eq_true_eq] at h
    exact h100 (by rw [← HN.out]; exact h.1)
end Go.Proofs.YtblbcdofiheikaaDoor
