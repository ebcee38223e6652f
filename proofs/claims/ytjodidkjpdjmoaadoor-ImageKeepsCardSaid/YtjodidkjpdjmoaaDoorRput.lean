/- What the document's Put does when it is called. -/
import Derived.Test.YtjodidkjpdjmoaaDoorRead
import Derived.Laws.AppendOwnNone
namespace Go.Proofs.YtjodidkjpdjmoaaDoor
open Go.RowKit

theorem Hid.mkr {p : Prop} (h : p) : Hid p := h
/-- 'append(v, src...)', src whatever. -/
theorem wpList_append_src {P : Program} {w : World} {ops : Array Oper} {rest : List Oper} {o : Oper} {a : Act} {Q : Exit → Act → World → Prop} (hgd : o.guard = none) (s x : Operand) (t : TypeId)
    (ho : o.op = .call { callee := .builtin .append, args := #[s, x], argTypes := #[t, t] }) (base : Nat) (e : TypeId) (i : TypeInfo) (z : Value) (size bytes : Nat) (ht : P.underlying t = some (.slice e)) (hi : P.info? e = some i) (hz : i.zero = some z)
    (hsize : i.size = size) (hby : i.bytes = bytes) (hzs : z.cells.size = size) (hsz : 0 < size) (v : Value) (n : Nat) (xs : List Value) (hs : a.eval s = v) (hown : w.ownsRow base e size v n xs)
    (sx : Option Addr) (k c : Nat) (news : List Value) (hx : a.eval x = .slice sx k c) (hsx : (sx = none ∧ k = 0 ∧ c = 0) ∨ ∃ ad, sx = some ad ∧ ∀ j u, news[j]? = some u → w.cell? (ad.add j) = some u) (hl : news.length = k * size)
    (h1 : ∀ u ∈ news, u.oneCell' = true) (h63 : n + k ≤ maxLen) (hbytes : (n + k) * bytes ≤ 140737488355328) (hbase : base ≤ w.heap.size)
    (h : ∀ v' w', w'.ownsRow base e size v' (n + k) (xs ++ news) → w.grownBy w' v.ownBlock → wpList P ops Q rest (a.put o.dst v') w') : wpList P ops Q (o :: rest) a w := by
  rcases hsx with ⟨rfl, rfl, rfl⟩ | ⟨ad, rfl, hc⟩
  · refine wpList_append_own_none hgd s x t ho base e i size ht hi v n xs hs hown hx ?_
    have hn : news = [] := List.length_eq_zero_iff.1 (by rw [hl]; omega)
    subst hn
    exact h v w (by simpa using hown) (World.grownBy.refl _ _)
  · exact wpList_append_own w hgd s x t ho base e i z size bytes ht hi hz hsize hby hzs hsz v n xs hs hown ad k c news hx hl hc h1 h63 hbytes hbase (fun v' w' h2 h3 _ => h v' w' h2 h3)

/-- Where the document's list lacks a byte that is asked for, or has one. -/
theorem lap_iff {g : Nat → Option Int} {a n : Nat} (h : a + n ≤ 65536) (hf : fitK (fun x => (g x).isSome) a n = 0) : ∀ (i : Nat) (x : Ent), (lst g)[i]? = some x → ¬ (a ≤ x.a ∧ x.a < a + n) := fun i x hx hlt => by
  obtain ⟨a', ha, _, hfree⟩ := fitK_zero hf
  obtain rfl : a' = a := by omega
  have hm := mem_lst.1 (List.mem_of_getElem? hx)
  have := hfree (x.a - a') (by omega)
  rw [show a' + (x.a - a') = x.a by omega, hm] at this
  cases this
theorem lap_some {g : Nat → Option Int} {a n : Nat} (hf : fitK (fun x => (g x).isSome) a n ≠ 0) (hle : a + n ≤ 65536) : fitK (fun x => (g x).isSome) a n = 6 ∧ ∃ (i : Nat) (x : Ent), (lst g)[i]? = some x ∧ a ≤ x.a ∧ x.a < a + n := by
  have hex : ∃ k, k < n ∧ (g (a + k)).isSome = true := by
    apply Classical.byContradiction
    intro hno
    refine hf (fitK_free hle fun k hk => ?_)
    cases hm : (g (a + k)).isSome with
    | false => rfl
    | true => exact absurd ⟨k, hk, hm⟩ hno
  obtain ⟨k, hk, hm⟩ := hex
  refine ⟨fitK_lap hle hk hm, ?_⟩
  obtain ⟨v, hv⟩ := Option.isSome_iff_exists.1 hm
  obtain ⟨i, hi⟩ := List.mem_iff_getElem?.1 (mem_lst (x := ⟨a + k, v, by omega⟩).2 hv)
  exact ⟨i, _, hi, by simp, by simp; omega⟩

set_option maxRecDepth 100000 in
set_option maxHeartbeats 1000000 in
theorem rput_neg (v vb : Value) (at_ : Int) (h0 : at_ < 0) {sa : Option Addr} {len cap n : Nat} (hv : v = .slice sa len cap) {sb : Option Addr} {cb : Nat} (hvb : vb = .slice sb n cb) (w : World) :
    Calls Tryd.prog 23 #[v, .int .i64 at_, vb] w fun e w' => e = .returned (.tuple #[v, .int .i64 1]) ∧ w' = w := by
  subst hv; subst hvb
  go_enter Tryd.func23, Tryd.ntmps23
  go_wp2
  go_ret2
  exact ⟨rfl, rfl⟩
set_option maxRecDepth 100000 in
set_option maxHeartbeats 1000000 in
theorem rput_over (v vb : Value) (a : Nat) {sa : Option Addr} {len cap n : Nat} (hn : n ≤ 65536) (h0 : 65536 < a + n) (_ : (a : Int) ≤ 9223372036854775807) (hv : v = .slice sa len cap) {sb : Option Addr} {cb : Nat} (hvb : vb = .slice sb n cb) (w : World) :
    Calls Tryd.prog 23 #[v, .int .i64 a, vb] w fun e w' => e = .returned (.tuple #[v, .int .i64 7]) ∧ w' = w := by
  subst hv; subst hvb
  have hd1 : decide ((65536 : Int) < (n : Int)) = false := by simp; omega
  have hd2 : decide ((65536 : Int) - (n : Int) < (a : Int)) = true := by simp; omega
  go_enter Tryd.func23, Tryd.ntmps23
  go_wp2
  go_ret2
  exact ⟨rfl, rfl⟩
set_option maxRecDepth 100000 in
set_option maxHeartbeats 1000000 in
theorem rput_lap (v vb : Value) (a n : Nat) (xs : List Ent) (hx : xs.length ≤ 65536) (hn : n ≤ 65536) (hle : a + n ≤ 65536) {sb : Option Addr} {cb : Nat} (hvb : vb = .slice sb n cb) (w : World) (hE : EntsRead w v xs) (hex : ∃ (i : Nat) (x : Ent), xs[i]? = some x ∧ a ≤ x.a ∧ x.a < a + n) :
    Calls Tryd.prog 23 #[v, .int .i64 a, vb] w fun e w' => e = .returned (.tuple #[v, .int .i64 6]) ∧ w' = w := by
  obtain ⟨gb, sa, cap, rfl, hsa, hcb⟩ := hE
  subst hvb
  obtain ⟨nx, hnx⟩ : ∃ nx, nx = xs.length := ⟨_, rfl⟩
  rw [← hnx] at hsa hx ⊢
  obtain ⟨i0, x0, hi0, hx1, hx2⟩ := hex
  have hi0l : i0 < nx := by rw [hnx]; exact (List.getElem?_eq_some_iff.1 hi0).1
  obtain rfl := hsa (by omega)
  have Hn : ∀ i, i < nx → ∃ x, xs[i]? = some x := fun i hi => ⟨xs[i]'(by omega), List.getElem?_eq_getElem _⟩
  have Hn := Hid.mkr Hn
  have Hcb := Hid.mkr hcb
  have Hi := Hid.mkr hi0
  clear hcb hi0 hnx
  go_enter Tryd.func23, Tryd.ntmps23
  go_wp2
  go_loop [8] (fun i => ∃ k : Nat, k ≤ i0 ∧ i = .int .i64 k) (fun i => nx - (intOf i).toNat)
  case atStart => exact ⟨0, Nat.zero_le _, rfl⟩
  case round =>
    obtain ⟨k, hk, rfl⟩ := hrel
    obtain ⟨x, hx0⟩ := Hn.out k (by omega)
    obtain ⟨b1, b2⟩ := Hcb.out k x hx0
    have hxa := x.h
    by_cases hin : a ≤ x.a ∧ x.a < a + n
    · have hd1 : decide ((a : Int) ≤ (x.a : Int)) = true := by simp; omega
      have hd2 : decide ((x.a : Int) - (a : Int) < (n : Int)) = true := by simp; omega
      clear hx0
      go_wp2
      go_ret2
      exact ⟨rfl, rfl⟩
    · have hne : k ≠ i0 := by
        intro e; subst e
        have := Hi.out
        rw [hx0] at this; cases this
        exact hin ⟨hx1, hx2⟩
      clear hx0
      by_cases hlo : a ≤ x.a
      · have hd1 : decide ((a : Int) ≤ (x.a : Int)) = true := by simp; omega
        have hd2 : decide ((x.a : Int) - (a : Int) < (n : Int)) = false := by simp; omega
        go_wp2
        go_round
        case rel => exact ⟨k + 1, by omega, by go_num⟩
        case measure => simp [intOf]; omega
      · have hd1 : decide ((a : Int) ≤ (x.a : Int)) = false := by simp; omega
        go_wp2
        go_round
        case rel => exact ⟨k + 1, by omega, by go_num⟩
        case measure => simp [intOf]; omega

theorem ents_cells {W : World} {g : Nat} {xs : List Ent} (h : ∀ (i : Nat) (x : Ent), xs[i]? = some x → W.cell? ⟨g, i * 2, none⟩ = some (.int .u16 (x.a : Nat)) ∧ W.cell? ⟨g, i * 2 + 1, none⟩ = some (.int .u8 x.v)) :
    ∀ j u, (entCells xs)[j]? = some u → W.cell? ⟨g, j, none⟩ = some u := fun j u hj => by
  have hl : j < xs.length * 2 := by rw [← entCells_length]; exact (List.getElem?_eq_some_iff.1 hj).1
  obtain ⟨x, hx⟩ : ∃ x, xs[j / 2]? = some x := ⟨xs[j / 2]'(by omega), List.getElem?_eq_getElem _⟩
  obtain ⟨e1, e2⟩ := entCells_get xs _ _ hx
  obtain ⟨c1, c2⟩ := h _ _ hx
  by_cases hm : j % 2 = 0
  · have e : j / 2 * 2 = j := by omega
    rw [e] at e1 c1
    rw [e1] at hj; cases hj; exact c1
  · have e : j / 2 * 2 + 1 = j := by omega
    rw [e] at e2 c2
    rw [e2] at hj; cases hj; exact c2
theorem entCells_append (a b : List Ent) : entCells (a ++ b) = entCells a ++ entCells b := by simp [entCells]
theorem entCells_one (xs : List Ent) : ∀ u ∈ entCells xs, u.oneCell' = true := fun u hu => by
  obtain ⟨x, _, hx⟩ := List.mem_flatMap.1 hu
  simp at hx
  rcases hx with rfl | rfl <;> rfl

/-- The slice v is nil, or it has the bytes xs from its block's beginning on. -/
def EntsVal (W : World) (v : Value) (xs : List Ent) : Prop :=
  (v = .slice none 0 0 ∧ xs = []) ∨ ∃ g cap, v = .slice (some ⟨g, 0, none⟩) xs.length cap ∧ xs.length ≤ cap ∧ ∀ (i : Nat) (x : Ent), xs[i]? = some x → W.cell? ⟨g, i * 2, none⟩ = some (.int .u16 (x.a : Nat)) ∧ W.cell? ⟨g, i * 2 + 1, none⟩ = some (.int .u8 x.v)
theorem EntsVal.read {W : World} {v : Value} {xs : List Ent} (h : EntsVal W v xs) : EntsRead W v xs := by
  rcases h with ⟨rfl, rfl⟩ | ⟨g, cap, rfl, _, hc⟩
  · exact ⟨0, none, 0, rfl, fun h => absurd h (by simp), fun i x hx => by simp at hx⟩
  · exact ⟨g, _, cap, rfl, fun _ => rfl, hc⟩
theorem EntsVal.keep {W W' : World} {v : Value} {xs : List Ent} (h : EntsVal W v xs) (hk : ∀ p u, W.cell? p = some u → W'.cell? p = some u) : EntsVal W' v xs := by
  rcases h with h | ⟨g, cap, h1, h2, h3⟩
  · exact .inl h
  · exact .inr ⟨g, cap, h1, h2, fun i x hx => ⟨hk _ _ (h3 i x hx).1, hk _ _ (h3 i x hx).2⟩⟩
theorem ents_val {W : World} {B : Nat} {v : Value} {xs : List Ent} (h : W.ownsRow B 37 2 v xs.length (entCells xs)) : EntsVal W v xs := by
  rcases h.2 with ⟨hv, h0⟩ | ⟨g, cap, cur, hv, _, _, hle, _⟩
  · exact .inl ⟨hv, List.length_eq_zero_iff.1 h0⟩
  · subst hv
    refine .inr ⟨g, cap, rfl, hle, fun i x hx => ?_⟩
    have hi := (List.getElem?_eq_some_iff.1 hx).1
    rw [h.cellAt (i * 2) (by omega), h.cellAt (i * 2 + 1) (by omega)]
    exact entCells_get xs i x hx

theorem news_len (a : Nat) (z : Nat → Int) (k : Nat) (h : a + k ≤ 65536) : (news a k z).length = k := news_length a z k h

set_option maxRecDepth 100000 in
set_option maxHeartbeats 2000000 in
theorem rput_ok (vb : Value) (gb cap a n : Nat) (z : Nat → Int) (A C : List Ent) (hxl : A.length + C.length ≤ 65536) (hn : n ≤ 65536) (hle : a + n ≤ 65536) (hcap : A.length + C.length ≤ cap) (w : World) (hB : Bs w vb n z)
    (hcb : ∀ (i : Nat) (x : Ent), (A ++ C)[i]? = some x → w.cell? ⟨gb, i * 2, none⟩ = some (.int .u16 (x.a : Nat)) ∧ w.cell? ⟨gb, i * 2 + 1, none⟩ = some (.int .u8 x.v))
    (hA : ∀ x ∈ A, x.a < a) (hC : ∀ x ∈ C, a + n ≤ x.a) :
    Calls Tryd.prog 23 #[.slice (some ⟨gb, 0, none⟩) (A.length + C.length) cap, .int .i64 a, vb] w fun e W' => ∃ v', e = .returned (.tuple #[v', .int .i64 0]) ∧ W'.ownsRow w.heap.size 37 2 v' (A.length + (n + C.length)) (entCells (A ++ (news a n z ++ C))) ∧ Below w.heap.size w W' := by
  obtain ⟨i37, p1, p2, p3, p4⟩ := info_parts info37
  obtain ⟨qb, qo, sb, cb, rfl, hsb, hz⟩ := hB
  have sA : ∀ j u, (entCells A)[j]? = some u → w.cell? ((⟨gb, 0, none⟩ : Addr).add j) = some u := fun j u hj => by
    rw [Addr.add_mid, Nat.zero_add]
    refine ents_cells hcb j u ?_
    rw [entCells_append, List.getElem?_append_left (List.getElem?_eq_some_iff.1 hj).1]; exact hj
  have sC : ∀ j u, (entCells C)[j]? = some u → w.cell? ((⟨gb, A.length * 2, none⟩ : Addr).add j) = some u := fun j u hj => by
    rw [Addr.add_mid]
    refine ents_cells hcb _ u ?_
    rw [entCells_append, List.getElem?_append_right (by rw [entCells_length]; omega), entCells_length, show A.length * 2 + j - A.length * 2 = j by omega]; exact hj
  have lA := entCells_length A
  have lC := entCells_length C
  obtain ⟨la, hla⟩ : ∃ la, la = A.length := ⟨_, rfl⟩
  obtain ⟨lc, hlc⟩ : ∃ lc, lc = C.length := ⟨_, rfl⟩
  have Hlo : Hid (∀ i, i < la → ∃ x : Ent, x.a < a ∧ w.cell? ⟨gb, i * 2, none⟩ = some (.int .u16 (x.a : Nat))) := fun i hi => by
    have hx : (A ++ C)[i]? = some (A[i]'(by omega)) := by rw [List.getElem?_append_left (by omega)]; exact List.getElem?_eq_getElem _
    exact ⟨_, hA _ (List.getElem_mem _), (hcb _ _ hx).1⟩
  have Hhi : Hid (∀ i, la ≤ i → i < la + lc → ∃ x : Ent, a + n ≤ x.a ∧ w.cell? ⟨gb, i * 2, none⟩ = some (.int .u16 (x.a : Nat))) := fun i h1 h2 => by
    have hx : (A ++ C)[i]? = some (C[i - la]'(by omega)) := by rw [List.getElem?_append_right (by omega), ← hla]; exact List.getElem?_eq_getElem _
    exact ⟨_, hC _ (List.getElem_mem _), (hcb _ _ hx).1⟩
  rw [← hla, ← hlc] at hxl hcap ⊢
  rw [← hla] at sC lA
  rw [← hlc] at lC
  have Hz := Hid.mkr hz
  have SA := Hid.mkr sA
  have SC := Hid.mkr sC
  have Hsb := Hid.mkr hsb
  have Ha := Hid.mkr (entCells_one A)
  have Hc := Hid.mkr (entCells_one C)
  have HA := Hid.mkr lA
  have HC := Hid.mkr lC
  obtain ⟨EA, hEA⟩ : ∃ EA, EA = entCells A := ⟨_, rfl⟩
  obtain ⟨EC, hEC⟩ : ∃ EC, EC = entCells C := ⟨_, rfl⟩
  have HE : Hid (∀ k, entCells (A ++ (news a k z ++ C)) = EA ++ (entCells (news a k z) ++ EC)) := fun k => by rw [entCells_append, entCells_append, hEA, hEC]
  rw [← hEA] at SA Ha HA
  rw [← hEC] at SC Hc HC
  rw [HE.out n]
  clear hcb hz hA hC hla hlc sA sC lA lC hEA hEC hsb HE
  go_enter Tryd.func23, Tryd.ntmps23
  have hd0 : decide ((65536 : Int) < (n : Int)) = false := by simp; omega
  have hd1 : decide ((65536 : Int) - (n : Int) < (a : Int)) = false := by simp; omega
  have hd : decide ((a : Int) < 0) = false := by simp
  go_wp2
  go_loop [8] (fun i => ∃ k : Nat, k ≤ la + lc ∧ i = .int .i64 k) (fun i => la + lc - (intOf i).toNat)
  case atStart => exact ⟨0, Nat.zero_le _, rfl⟩
  case round =>
    obtain ⟨k, hk, rfl⟩ := hrel
    by_cases hlt : k < la + lc
    · by_cases hkl : k < la
      · obtain ⟨x, hxa, b1⟩ := Hlo.out k hkl
        have hxh := x.h
        have hd2 : decide ((a : Int) ≤ (x.a : Int)) = false := by simp; omega
        go_wp2
        go_round
        case rel => exact ⟨k + 1, by omega, by go_num⟩
        case measure => simp [intOf]; omega
      · obtain ⟨x, hxa, b1⟩ := Hhi.out k (by omega) hlt
        have hxh := x.h
        have hd2 : decide ((a : Int) ≤ (x.a : Int)) = true := by simp; omega
        have hd3 : decide ((x.a : Int) - (a : Int) < (n : Int)) = false := by simp; omega
        go_wp2
        go_round
        case rel => exact ⟨k + 1, by omega, by go_num⟩
        case measure => simp [intOf]; omega
    · obtain rfl : k = la + lc := by omega
      go_wp2
      go_loop [9] (fun i => ∃ k : Nat, k ≤ la ∧ i = .int .i64 k) (fun i => la + lc - (intOf i).toNat)
      case atStart => exact ⟨0, Nat.zero_le _, rfl⟩
      case round =>
        obtain ⟨k, hk2, rfl⟩ := hrel
        by_cases hkl : k < la
        · obtain ⟨x, hxa, b1⟩ := Hlo.out k hkl
          have hxh := x.h
          have hd2 : decide ((x.a : Int) < (a : Int)) = true := by rw [decide_eq_true_eq]; omega
          have hd3 : decide ((k : Int) < (la : Int) + (lc : Int)) = true := by rw [decide_eq_true_eq]; omega
          go_wp2
          go_round
          case rel => exact ⟨k + 1, by omega, by go_num⟩
          case measure => simp [intOf]; omega
        · obtain rfl : k = la := by omega
          have hG : lc = 0 ∨ ∃ x : Ent, 0 < lc ∧ a + n ≤ x.a ∧ w.cell? ⟨gb, k * 2, none⟩ = some (.int .u16 (x.a : Nat)) ∧ decide ((x.a : Int) < (a : Int)) = false := by
            by_cases h0 : lc = 0
            · exact .inl h0
            · obtain ⟨x, h1, h2⟩ := Hhi.out k (Nat.le_refl _) (by omega)
              exact .inr ⟨x, by omega, h1, h2, by rw [decide_eq_false_iff_not]; omega⟩
          rcases hG with rfl | ⟨x, hd2, hxa, b1, hd3⟩
          · simp only [Nat.add_zero] at hxl hcap ⊢
            go_wp2_with (at_builtin; refine wpList_append_src rfl (.tmp 70) (.tmp 73) 27 rfl w.heap.size 37 i37 (.agg #[.int .u16 0, .int .u8 0]) 2 4 Tryd.underlying27 p1 p2 p3 p4 rfl (by decide) _ 0 [] rfl (World.ownsRow_lit w #[] 0 (Nat.le_refl _) (by decide) rfl) _ _ _ EA rfl (.inr ⟨_, rfl, fun j u hj => keep_below ((Below.refl _ w).alloc (Nat.le_refl _) _) _ _ (SA.out j u hj)⟩) HA.out Ha.out (by simp only [maxLen]; omega) (by omega) (by simp) ?_; intro v1 w1 hown1 hgrow1)
            have hB1 : Below w.heap.size w w1 := ((Below.refl _ w).alloc (Nat.le_refl _) _).grown hgrow1 (by simp) (fun r e => by cases e; exact Nat.le_refl _)
            rw [List.nil_append, Nat.zero_add] at hown1
            have hsz := hB1.size
            clear hgrow1
            go_loopw [10, 11] (fun vv i wr => ∃ k2 : Nat, k2 ≤ n ∧ i = .int .i64 k2 ∧ wr.ownsRow w.heap.size 37 2 vv (k + k2) (EA ++ entCells (news a k2 z)) ∧ Below w.heap.size w wr) (fun _ i _ => n - (intOf i).toNat)
            case atStart => exact ⟨0, Nat.zero_le _, rfl, by rw [news_zero]; simpa [entCells] using hown1, hB1⟩
            case round =>
              obtain ⟨k2, hk2, rfl, hown2, hB2⟩ := hrel
              have hsz2 := hB2.size
              obtain ⟨so, co, hvo⟩ := own_slice hown2
              subst hvo
              by_cases hlt2 : k2 < n
              · obtain rfl := Hsb.out (by omega)
                have hzc := keep_below hB2 _ _ (Hz.out k2 hlt2)
                go_wp2_with (at_builtin; refine wpList_append_own _ rfl (.tmp 81) (.tmp 91) 27 rfl w.heap.size 37 i37 (.agg #[.int .u16 0, .int .u8 0]) 2 4 Tryd.underlying27 p1 p2 p3 p4 rfl (by decide) _ _ _ rfl (hown2.alloc _) ⟨wr.heap.size, 0, none⟩ 1 1 [.int .u16 ((a : Int) + (k2 : Int)), .int .u8 (z k2)] rfl rfl (two_at rfl _ _ _) (by simp [Value.oneCell']) (by simp only [maxLen]; omega) (by omega) (by simp; omega) ?_; intro v3 w3 hown3 hgrow3 _)
                go_roundw
                case rel =>
                  refine ⟨k2 + 1, by omega, by go_num, ?_, (hB2.alloc hsz2 _).grown hgrow3 (by simp; omega) (fun r e => (hown2.lt r e).1)⟩
                  rw [news_succ a k2 z (by omega), entCells_snoc, ← List.append_assoc, ← Nat.add_assoc]
                  exact hown3
                case measure => simp [intOf]; omega
              · obtain rfl : k2 = n := by omega
                go_wp2_with (at_builtin; refine wpList_append_src rfl (.tmp 93) (.tmp 96) 27 rfl w.heap.size 37 i37 (.agg #[.int .u16 0, .int .u8 0]) 2 4 Tryd.underlying27 p1 p2 p3 p4 rfl (by decide) _ _ _ rfl hown2 _ _ _ EC rfl (by first | exact .inr ⟨_, rfl, fun j u hj => keep_below hB2 _ _ (SC.out j u hj)⟩ | exact (if hck : cap = k then .inr ⟨_, if_pos hck, fun j u hj => (by exfalso; have h1 := HC.out; have h2 := (List.getElem?_eq_some_iff.1 hj).1; omega)⟩ else .inr ⟨_, if_neg hck, fun j u hj => keep_below hB2 _ _ (SC.out j u hj)⟩)) (by have := HC.out; omega) Hc.out (by simp only [maxLen]; omega) (by omega) hsz2 ?_; intro v4 w4 hown4 hgrow4)
                all_goals
                  go_ret2
                  refine ⟨v4, rfl, ?_, hB2.grown hgrow4 hsz2 (fun r e => (hown2.lt r e).1)⟩
                  rw [← List.append_assoc]
                  first
                    | (rw [← Nat.add_assoc]; exact hown4)
                    | exact hown4
          · have hxh := x.h
            have hd4 : decide ((0 : Int) < (lc : Int)) = true := by rw [decide_eq_true_eq]; omega
            have hd5 : decide (0 < lc) = true := by rw [decide_eq_true_eq]; omega
            have hd6 : decide ((k : Int) < (k : Int) + (lc : Int)) = true := by rw [decide_eq_true_eq]; omega
            go_wp2_with (at_builtin; refine wpList_append_src rfl (.tmp 70) (.tmp 73) 27 rfl w.heap.size 37 i37 (.agg #[.int .u16 0, .int .u8 0]) 2 4 Tryd.underlying27 p1 p2 p3 p4 rfl (by decide) _ 0 [] rfl (World.ownsRow_lit w #[] 0 (Nat.le_refl _) (by decide) rfl) _ _ _ EA rfl (.inr ⟨_, rfl, fun j u hj => keep_below ((Below.refl _ w).alloc (Nat.le_refl _) _) _ _ (SA.out j u hj)⟩) HA.out Ha.out (by simp only [maxLen]; omega) (by omega) (by simp) ?_; intro v1 w1 hown1 hgrow1)
            have hB1 : Below w.heap.size w w1 := ((Below.refl _ w).alloc (Nat.le_refl _) _).grown hgrow1 (by simp) (fun r e => by cases e; exact Nat.le_refl _)
            rw [List.nil_append, Nat.zero_add] at hown1
            have hsz := hB1.size
            clear hgrow1
            go_loopw [10, 11] (fun vv i wr => ∃ k2 : Nat, k2 ≤ n ∧ i = .int .i64 k2 ∧ wr.ownsRow w.heap.size 37 2 vv (k + k2) (EA ++ entCells (news a k2 z)) ∧ Below w.heap.size w wr) (fun _ i _ => n - (intOf i).toNat)
            case atStart => exact ⟨0, Nat.zero_le _, rfl, by rw [news_zero]; simpa [entCells] using hown1, hB1⟩
            case round =>
              obtain ⟨k2, hk2, rfl, hown2, hB2⟩ := hrel
              have hsz2 := hB2.size
              obtain ⟨so, co, hvo⟩ := own_slice hown2
              subst hvo
              by_cases hlt2 : k2 < n
              · obtain rfl := Hsb.out (by omega)
                have hzc := keep_below hB2 _ _ (Hz.out k2 hlt2)
                go_wp2_with (at_builtin; refine wpList_append_own _ rfl (.tmp 81) (.tmp 91) 27 rfl w.heap.size 37 i37 (.agg #[.int .u16 0, .int .u8 0]) 2 4 Tryd.underlying27 p1 p2 p3 p4 rfl (by decide) _ _ _ rfl (hown2.alloc _) ⟨wr.heap.size, 0, none⟩ 1 1 [.int .u16 ((a : Int) + (k2 : Int)), .int .u8 (z k2)] rfl rfl (two_at rfl _ _ _) (by simp [Value.oneCell']) (by simp only [maxLen]; omega) (by omega) (by simp; omega) ?_; intro v3 w3 hown3 hgrow3 _)
                go_roundw
                case rel =>
                  refine ⟨k2 + 1, by omega, by go_num, ?_, (hB2.alloc hsz2 _).grown hgrow3 (by simp; omega) (fun r e => (hown2.lt r e).1)⟩
                  rw [news_succ a k2 z (by omega), entCells_snoc, ← List.append_assoc, ← Nat.add_assoc]
                  exact hown3
                case measure => simp [intOf]; omega
              · obtain rfl : k2 = n := by omega
                go_wp2_with (at_builtin; refine wpList_append_src rfl (.tmp 93) (.tmp 96) 27 rfl w.heap.size 37 i37 (.agg #[.int .u16 0, .int .u8 0]) 2 4 Tryd.underlying27 p1 p2 p3 p4 rfl (by decide) _ _ _ rfl hown2 _ _ _ EC rfl (by first | exact .inr ⟨_, rfl, fun j u hj => keep_below hB2 _ _ (SC.out j u hj)⟩ | (by_cases hck : cap = k; · exact .inr ⟨_, if_pos hck, fun j u hj => (by exfalso; have h1 := HC.out; have h2 := (List.getElem?_eq_some_iff.1 hj).1; omega)⟩; · exact .inr ⟨_, if_neg hck, fun j u hj => keep_below hB2 _ _ (SC.out j u hj)⟩)) (by have := HC.out; omega) Hc.out (by simp only [maxLen]; omega) (by omega) hsz2 ?_; intro v4 w4 hown4 hgrow4)
                all_goals
                  go_ret2
                  refine ⟨v4, rfl, ?_, hB2.grown hgrow4 hsz2 (fun r e => (hown2.lt r e).1)⟩
                  rw [← List.append_assoc]
                  first
                    | (rw [← Nat.add_assoc]; exact hown4)
                    | exact hown4

set_option maxRecDepth 100000 in
set_option maxHeartbeats 2000000 in
/-- A Put on no bytes. -/
theorem rput_nil (vb : Value) (a n : Nat) (z : Nat → Int) (hn : n ≤ 65536) (hle : a + n ≤ 65536) (w : World) (hB : Bs w vb n z) :
    Calls Tryd.prog 23 #[.slice none 0 0, .int .i64 a, vb] w fun e W' => ∃ v', e = .returned (.tuple #[v', .int .i64 0]) ∧ W'.ownsRow w.heap.size 37 2 v' n (entCells (news a n z)) ∧ Below w.heap.size w W' := by
  obtain ⟨i37, p1, p2, p3, p4⟩ := info_parts info37
  obtain ⟨qb, qo, sb, cb, rfl, hsb, hz⟩ := hB
  have Hz := Hid.mkr hz
  have Hsb := Hid.mkr hsb
  clear hz hsb
  have hd0 : decide ((65536 : Int) < (n : Int)) = false := by simp; omega
  have hd1 : decide ((65536 : Int) - (n : Int) < (a : Int)) = false := by simp; omega
  have hd : decide ((a : Int) < 0) = false := by simp
  go_enter Tryd.func23, Tryd.ntmps23
  go_wp2
  go_loop [8] (fun i => i = .int .i64 0) (fun _ => 0)
  case atStart => exact rfl
  case round =>
    obtain rfl := hrel
    go_wp2
    go_loop [9] (fun i => i = .int .i64 0) (fun _ => 0)
    case atStart => exact rfl
    case round =>
      obtain rfl := hrel
      go_wp2_with (at_builtin; refine wpList_append_src rfl (.tmp 70) (.tmp 73) 27 rfl w.heap.size 37 i37 (.agg #[.int .u16 0, .int .u8 0]) 2 4 Tryd.underlying27 p1 p2 p3 p4 rfl (by decide) _ 0 [] rfl (World.ownsRow_lit w #[] 0 (Nat.le_refl _) (by decide) rfl) _ _ _ [] rfl (.inl ⟨rfl, rfl, rfl⟩) rfl (fun u hu => absurd hu (by simp)) (by decide) (by decide) (by simp) ?_; intro v1 w1 hown1 hgrow1)
      have hB1 : Below w.heap.size w w1 := ((Below.refl _ w).alloc (Nat.le_refl _) _).grown hgrow1 (by simp) (fun r e => by cases e; exact Nat.le_refl _)
      have hsz := hB1.size
      clear hgrow1
      go_loopw [10, 11] (fun vv i wr => ∃ k2 : Nat, k2 ≤ n ∧ i = .int .i64 k2 ∧ wr.ownsRow w.heap.size 37 2 vv k2 (entCells (news a k2 z)) ∧ Below w.heap.size w wr) (fun _ i _ => n - (intOf i).toNat)
      case atStart => exact ⟨0, Nat.zero_le _, rfl, by rw [news_zero]; simpa [entCells] using hown1, hB1⟩
      case round =>
        obtain ⟨k2, hk2, rfl, hown2, hB2⟩ := hrel
        have hsz2 := hB2.size
        obtain ⟨so, co, hvo⟩ := own_slice hown2
        subst hvo
        by_cases hlt2 : k2 < n
        · obtain rfl := Hsb.out (by omega)
          have hzc := keep_below hB2 _ _ (Hz.out k2 hlt2)
          go_wp2_with (at_builtin; refine wpList_append_own _ rfl (.tmp 81) (.tmp 91) 27 rfl w.heap.size 37 i37 (.agg #[.int .u16 0, .int .u8 0]) 2 4 Tryd.underlying27 p1 p2 p3 p4 rfl (by decide) _ _ _ rfl (hown2.alloc _) ⟨wr.heap.size, 0, none⟩ 1 1 [.int .u16 ((a : Int) + (k2 : Int)), .int .u8 (z k2)] rfl rfl (two_at rfl _ _ _) (by simp [Value.oneCell']) (by simp only [maxLen]; omega) (by omega) (by simp; omega) ?_; intro v3 w3 hown3 hgrow3 _)
          go_roundw
          case rel =>
            refine ⟨k2 + 1, by omega, by go_num, ?_, (hB2.alloc hsz2 _).grown hgrow3 (by simp; omega) (fun r e => (hown2.lt r e).1)⟩
            rw [news_succ a k2 z (by omega), entCells_snoc]
            exact hown3
          case measure => simp [intOf]; omega
        · obtain rfl : k2 = n := by omega
          go_wp2_with (at_builtin; refine wpList_append_src rfl (.tmp 93) (.tmp 96) 27 rfl w.heap.size 37 i37 (.agg #[.int .u16 0, .int .u8 0]) 2 4 Tryd.underlying27 p1 p2 p3 p4 rfl (by decide) _ _ _ rfl hown2 _ _ _ [] rfl (.inl ⟨rfl, rfl, rfl⟩) rfl (fun u hu => absurd hu (by simp)) (by simp only [maxLen]; omega) (by omega) hsz2 ?_; intro v4 w4 hown4 hgrow4)
          go_ret2
          exact ⟨v4, rfl, by simpa using hown4, hB2.grown hgrow4 hsz2 (fun r e => (hown2.lt r e).1)⟩

theorem own_len {W : World} {B : Nat} {v : Value} {m m' : Nat} {xs : List Value} (h : W.ownsRow B 37 2 v m xs) (e : m = m') : W.ownsRow B 37 2 v m' xs := e ▸ h

/-- What the document's Put does: its kind, and the list behind it. -/
theorem rput_any (g : Nat → Option Int) (v vb : Value) (at_ : Int) (h0 : -9223372036854775808 ≤ at_) (h1 : at_ ≤ 9223372036854775807) (n : Nat) (hn : n ≤ 65536) (z : Nat → Int) (w : World) (hV : EntsVal w v (lst g)) (hB : Bs w vb n z) :
    Calls Tryd.prog 23 #[v, .int .i64 at_, vb] w fun e W' => ∃ v', e = .returned (.tuple #[v', .int .i64 (fitK (fun x => (g x).isSome) at_ n)]) ∧
      EntsVal W' v' (lst (if fitK (fun x => (g x).isSome) at_ n = 0 then putG g at_.toNat n z else g)) ∧ Below w.heap.size w W' := by
  have hsl : ∃ sa len cap, v = .slice sa len cap := by
    rcases hV with ⟨rfl, _⟩ | ⟨_, _, rfl, _⟩
    · exact ⟨_, _, _, rfl⟩
    · exact ⟨_, _, _, rfl⟩
  obtain ⟨sa, len, cap, hsv⟩ := hsl
  have hbl : ∃ sb cb, vb = .slice sb n cb := by obtain ⟨_, _, sb, cb, h, _⟩ := hB; exact ⟨sb, cb, h⟩
  obtain ⟨sb, cb, hsb⟩ := hbl
  by_cases hneg : at_ < 0
  · rw [fitK_neg hneg, if_neg (by decide)]
    exact (rput_neg v vb at_ hneg hsv hsb w).mono fun e W' ⟨he, hw⟩ => ⟨v, he, by rw [hw]; exact hV, by rw [hw]; exact Below.refl _ _⟩
  obtain ⟨a, rfl⟩ := Int.eq_ofNat_of_zero_le (by omega : 0 ≤ at_)
  by_cases hov : 65536 < a + n
  · rw [fitK_over (by omega) (by omega), if_neg (by decide)]
    exact (rput_over v vb a hn hov h1 hsv hsb w).mono fun e W' ⟨he, hw⟩ => ⟨v, he, by rw [hw]; exact hV, by rw [hw]; exact Below.refl _ _⟩
  have hle : a + n ≤ 65536 := by omega
  by_cases hk : fitK (fun x => (g x).isSome) (a : Int) n = 0
  · rw [if_pos hk, hk, Int.toNat_natCast]
    obtain ⟨a', ha, _, hfree⟩ := fitK_zero hk
    obtain rfl : a' = a := by omega
    have hnone : ∀ x, a' ≤ x → x < a' + n → g x = none := fun x hx1 hx2 => by
      have := hfree (x - a') (by omega)
      rw [show a' + (x - a') = x by omega] at this
      simpa using this
    have e1 := lst_free g a' n hle hnone
    have e2 := lst_putG g a' n z hle
    obtain ⟨A, hA⟩ : ∃ A, A = seg g 0 a' := ⟨_, rfl⟩
    obtain ⟨C, hC⟩ : ∃ C, C = seg g (a' + n) (65536 - (a' + n)) := ⟨_, rfl⟩
    rw [← hA, ← hC] at e1 e2
    have hll := lst_length_le g
    rw [e1] at hll hV
    rw [e2]
    have hAm : ∀ x ∈ A, x.a < a' := fun x hx => by rw [hA, mem_seg] at hx; omega
    have hCm : ∀ x ∈ C, a' + n ≤ x.a := fun x hx => by rw [hC, mem_seg] at hx; omega
    have hnl := news_len a' z n hle
    rw [List.length_append] at hll
    clear e1 e2 hA hC hfree hnone hk
    rcases hV with ⟨rfl, hnil⟩ | ⟨gb, cp, rfl, hcp, hc⟩
    · obtain ⟨rfl, rfl⟩ := List.append_eq_nil_iff.1 hnil
      refine (rput_nil vb a' n z hn hle w hB).mono ?_
      rintro e W' ⟨v', he, hown, hb⟩
      refine ⟨v', he, ents_val (B := w.heap.size) ?_, hb⟩
      rw [List.nil_append, List.append_nil]
      exact own_len hown hnl.symm
    · rw [List.length_append] at hcp ⊢
      refine (rput_ok vb gb cp a' n z A C hll hn hle hcp w hB hc hAm hCm).mono ?_
      rintro e W' ⟨v', he, hown, hb⟩
      refine ⟨v', he, ents_val (B := w.heap.size) (own_len hown ?_), hb⟩
      rw [List.length_append, List.length_append, hnl]
  · obtain ⟨h6, hex⟩ := lap_some hk hle
    rw [if_neg hk, h6]
    exact (rput_lap v vb a n (lst g) (lst_length_le g) hn hle hsb w hV.read hex).mono fun e W' ⟨he, hw⟩ => ⟨v, he, by rw [hw]; exact hV, by rw [hw]; exact Below.refl _ _⟩
end Go.Proofs.YtjodidkjpdjmoaaDoor
