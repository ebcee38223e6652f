/- What fits and Put do when they are called: the kind that is answered, and the image behind it. -/
import Derived.Test.YtjodidkjpdjmoaaDoorBase
namespace Go.Proofs.YtjodidkjpdjmoaaDoor
open Go.RowKit

/-- What a Put answers: m says which addresses have a byte. -/
def fitK (m : Nat → Bool) (at_ : Int) (n : Nat) : Int :=
  if at_ < 0 then 1 else if at_ + n > 65536 then 7 else if (List.range n).any (fun i => m (at_.toNat + i)) then 6 else 0

/-- The slice v holds the n bytes z. -/
def Bs (W : World) (v : Value) (n : Nat) (z : Nat → Int) : Prop :=
  ∃ a o sa cap, v = .slice sa n cap ∧ (0 < n → sa = some ⟨a, o, none⟩) ∧ ∀ j, j < n → W.cell? ⟨a, o + j, none⟩ = some (.int .u8 (z j))

theorem fitK_neg {m : Nat → Bool} {at_ : Int} {n : Nat} (h : at_ < 0) : fitK m at_ n = 1 := if_pos h
theorem fitK_over {m : Nat → Bool} {at_ : Int} {n : Nat} (h : 0 ≤ at_) (h2 : at_ + n > 65536) : fitK m at_ n = 7 := by
  unfold fitK; rw [if_neg (by omega), if_pos h2]
theorem fitK_lap {m : Nat → Bool} {a n k : Nat} (h2 : a + n ≤ 65536) (hk : k < n) (hm : m (a + k) = true) : fitK m a n = 6 := by
  unfold fitK; rw [if_neg (by omega), if_neg (by omega), if_pos]
  rw [List.any_eq_true]; exact ⟨k, List.mem_range.2 hk, by simpa using hm⟩
theorem fitK_free {m : Nat → Bool} {a n : Nat} (h2 : a + n ≤ 65536) (hm : ∀ k, k < n → m (a + k) = false) : fitK m a n = 0 := by
  unfold fitK; rw [if_neg (by omega), if_neg (by omega), if_neg]
  rw [List.any_eq_true]
  rintro ⟨k, hk, h⟩
  rw [List.mem_range] at hk
  simp only [Int.toNat_natCast] at h
  rw [hm k hk] at h; cases h
theorem fitK_zero {m : Nat → Bool} {at_ : Int} {n : Nat} (h : fitK m at_ n = 0) : ∃ a : Nat, at_ = a ∧ a + n ≤ 65536 ∧ ∀ k, k < n → m (a + k) = false := by
  by_cases h1 : at_ < 0
  · rw [fitK_neg h1] at h; omega
  obtain ⟨a, rfl⟩ := Int.eq_ofNat_of_zero_le (by omega : 0 ≤ at_)
  by_cases h2 : (a : Int) + n > 65536
  · rw [fitK_over (by omega) h2] at h; omega
  refine ⟨a, rfl, by omega, fun k hk => ?_⟩
  cases hm : m (a + k) with
  | false => rfl
  | true => rw [fitK_lap (by omega) hk hm] at h; omega

set_option maxHeartbeats 1000000 in
theorem fits_any (b n : Nat) (at_ : Int) (h0 : -9223372036854775808 ≤ at_) (h1 : at_ ≤ 9223372036854775807) (hn : n ≤ 65536) (m : Nat → Bool) (M : Nat → Nat) (w : World) (hI : Mk w b m M) :
    Calls Tryd.prog 29 #[.pointer (some ⟨b, 0, none⟩), .int .i64 at_, .int .i64 n] w fun e w' => e = .returned (.int .i64 (fitK m at_ n)) ∧ w' = w := by
  by_cases hneg : at_ < 0
  · rw [fitK_neg hneg]
    go_enter Tryd.func29, Tryd.ntmps29
    go_wp2
    go_ret
    exact ⟨rfl, rfl⟩
  obtain ⟨a, rfl⟩ := Int.eq_ofNat_of_zero_le (by omega : 0 ≤ at_)
  by_cases hov : (a : Int) + n > 65536
  · rw [fitK_over (by omega) hov]
    go_enter Tryd.func29, Tryd.ntmps29
    go_wp2
    go_ret
    exact ⟨rfl, rfl⟩
  have hle : a + n ≤ 65536 := by omega
  go_enter Tryd.func29, Tryd.ntmps29
  go_wp2
  go_loop [17] (fun i => ∃ k : Nat, k ≤ n ∧ i = .int .i64 k ∧ ∀ j, j < k → m (a + j) = false) (fun i => n - (intOf i).toNat)
  case atStart => exact ⟨0, Nat.zero_le _, rfl, fun j hj => absurd hj (by omega)⟩
  case round =>
    obtain ⟨k, hk, rfl, hfree⟩ := hrel
    by_cases hlt : k < n
    · have hH := has_any b (a + k) (by omega) m M w hI
      cases hm : m (a + k) with
      | true =>
        rw [hm] at hH
        go_wp2_with (go_at_call 26; refine hH.mono ?_; rintro e w' ⟨rfl, rfl⟩)
        go_ret
        exact ⟨by rw [fitK_lap hle hlt hm]; rfl, rfl⟩
      | false =>
        rw [hm] at hH
        go_wp2_with (go_at_call 26; refine hH.mono ?_; rintro e w' ⟨rfl, rfl⟩)
        go_round
        case rel =>
          refine ⟨k + 1, by omega, by go_num, fun j hj => ?_⟩
          by_cases e : j = k
          · subst e; exact hm
          · exact hfree j (by omega)
        case measure => simp [intOf]; omega
    · obtain rfl : k = n := by omega
      go_wp2
      go_ret
      exact ⟨by rw [fitK_free hle hfree]; rfl, rfl⟩

theorem size5 : (Tryd.prog.info? 5).map (·.size) = some 1 := by kernel_rfl

/-- The bytes z laid over those from a on. -/
def overV (V : Nat → Int) (a n : Nat) (z : Nat → Int) : Nat → Int := fun x => if a ≤ x ∧ x < a + n then z (x - a) else V x
def byteCells (n : Nat) (z : Nat → Int) : List Value := (List.range n).map fun j => .int .u8 (z j)
theorem byteCells_length (n : Nat) (z : Nat → Int) : (byteCells n z).length = n := by simp [byteCells]
theorem byteCells_at {n : Nat} {z : Nat → Int} {j : Nat} {v : Value} (h : (byteCells n z)[j]? = some v) : j < n ∧ v = .int .u8 (z j) := by
  have hj : j < n := by have := (List.getElem?_eq_some_iff.1 h).1; rwa [byteCells_length] at this
  refine ⟨hj, ?_⟩
  simp only [byteCells, List.getElem?_map, List.getElem?_range hj, Option.map_some, Option.some.injEq] at h
  exact h.symm
theorem copied {w : World} {b : Nat} {m : Nat → Bool} {M : Nat → Nat} {V : Nat → Int} (hM : Mk w b m M) (hV : Vs w b V) (a n : Nat) (h : a + n ≤ 65536) (z : Nat → Int) :
    Mk (w.setCells b (1024 + a) (byteCells n z)) b m M ∧ Vs (w.setCells b (1024 + a) (byteCells n z)) b (overV V a n z) ∧ w.grownBy (w.setCells b (1024 + a) (byteCells n z)) (some b) := by
  have hsome : ∀ j, j < (byteCells n z).length → (w.cell? ⟨b, 1024 + a + j, none⟩).isSome = true := fun j hj => by
    rw [byteCells_length] at hj
    rw [Nat.add_assoc, hV (a + j) (by omega)]; rfl
  refine ⟨⟨fun k hk => ?_, fun o => ?_, hM.bits⟩, fun x hx => ?_, ?_⟩
  · rw [World.cell?_setCells_out _ _ _ _ _ (fun _ _ => .inl (by show k < 1024 + a; omega))]; exact hM.marks k hk
  · rw [World.frozen?_setCells]; exact hM.free o
  · by_cases e : a ≤ x ∧ x < a + n
    · have := World.cell?_setCells_in b (byteCells n z) (1024 + a) w hsome (x - a) (by rw [byteCells_length]; omega)
      rw [show 1024 + a + (x - a) = 1024 + x by omega] at this
      rw [this]
      simp only [overV, if_pos e, byteCells, List.getElem_map, List.getElem_range]
    · rw [World.cell?_setCells_out _ _ _ _ _ (fun _ _ => by rw [byteCells_length]; show 1024 + x < 1024 + a ∨ 1024 + a + n ≤ 1024 + x; omega)]
      simp only [overV, if_neg e]
      exact hV x hx
  · suffices hh : ∀ (vs : List Value) (o : Nat) (W : World), w.grownBy W (some b) → w.grownBy (W.setCells b o vs) (some b) from hh _ _ _ (World.grownBy.refl _ _)
    intro vs
    induction vs with
    | nil => intro o W h; exact h
    | cons v r ih => intro o W h; exact ih _ _ (grown_set h _ _)

theorem put_img {w w' : World} {b a n : Nat} {g : Nat → Option Int} {M : Nat → Nat} {z : Nat → Int}
    (h1 : Mk w b (fun x => (g x).isSome || decide (a ≤ x ∧ x < a + n)) M) (h2 : Vs w' b (overV (fun x => (g x).getD 0) a n z)) (ho : ∀ o, 1024 ≤ o → w.cell? ⟨b, o, none⟩ = w'.cell? ⟨b, o, none⟩) :
    Img w b (putG g a n z) M := by
  refine ⟨h1.congr (fun x _ => ?_), fun x hx => ?_⟩
  · unfold putG
    by_cases e : a ≤ x ∧ x < a + n
    · simp [e]
    · simp [e]
  · rw [ho _ (by omega), h2 x hx]
    unfold putG overV
    by_cases e : a ≤ x ∧ x < a + n
    · simp [e]
    · simp [e]

theorem slice61 (b a : Nat) (ha : a ≤ 65536) (w : World) : (Instr.sliceAt 61 (.pointer (some ⟨b, 1024, none⟩)) (some (.int .i64 a)) none none).run Tryd.prog w =
    .ok (.slice (some ⟨b, 1024 + (if a = 65536 then 0 else a), none⟩) (65536 - a) (65536 - a)) w := by
  have hl : Tryd.prog.arrayLen 61 = 65536 := by kernel_rfl
  have he : Tryd.prog.elem 61 = 5 := by kernel_rfl
  have hs : (sizeOf 5).run Tryd.prog w = .ok 1 w := Tryd.sizeOf5 w
  rw [run_sliceAt_array_l (P := Tryd.prog) w 61 ⟨b, 1024, none⟩ (by rw [hl, he]; exact Tryd.underlying61) .i64 a (by omega) (by rw [hl]; omega), hl, he, hs]
  simp only [Result.andThen, slicedAt, Int.toNat_natCast, Nat.mul_one]
  congr 2
  by_cases e : a = 65536
  · rw [if_pos e, if_pos e.symm]
  · rw [if_neg e, if_neg (fun h => e h.symm), Addr.add_mid]

set_option maxHeartbeats 1000000 in
theorem put_any (b n : Nat) (at_ : Int) (h0 : -9223372036854775808 ≤ at_) (h1 : at_ ≤ 9223372036854775807) (hn : n ≤ 65536) (g : Nat → Option Int) (M : Nat → Nat) (v : Value) (z : Nat → Int) (w : World) (hI : Img w b g M) (hB : Bs w v n z) :
    Calls Tryd.prog 22 #[.pointer (some ⟨b, 0, none⟩), .int .i64 at_, v] w fun e w' => e = .returned (.int .i64 (fitK (fun x => (g x).isSome) at_ n)) ∧ w.grownBy w' (some b) ∧
      ∃ M', Img w' b (if fitK (fun x => (g x).isSome) at_ n = 0 then putG g at_.toNat n z else g) M' := by
  have hF := fits_any b n at_ h0 h1 hn _ M w hI.mks
  by_cases hk : fitK (fun x => (g x).isSome) at_ n = 0
  · rw [if_pos hk]
    rw [hk] at hF ⊢
    obtain ⟨a, rfl, hle, hfree⟩ := fitK_zero hk
    obtain ⟨hMk, hVs, hgr⟩ := copied hI.mks hI.vals a n hle z
    have hmark := mark_any b a n hle _ M _ hMk
    have hsl := slice61 b a (by omega) w
    obtain ⟨sa, len, cap, rfl, hl, hcp⟩ : ∃ sa len cap, v = .slice sa len cap ∧ len = n ∧ ∀ ty, (Builtin.copy_ #[42, 42] ty #[.slice (some ⟨b, 1024 + (if a = 65536 then 0 else a), none⟩) (65536 - a) (65536 - a), .slice sa len cap]).run Tryd.prog w =
        .ok (goInt (byteCells n z).length) (w.setCells b (1024 + a) (byteCells n z)) := by
      obtain ⟨sb, so, sa, cap, rfl, hsa, hc⟩ := hB
      refine ⟨_, _, _, rfl, rfl, fun ty => ?_⟩
      by_cases hn0 : n = 0
      · subst hn0
        exact run_copy_none w 42 42 ty 5 _ _ _ _ _ _ Tryd.underlying42 size5 (by simp)
      · obtain rfl := hsa (by omega)
        rw [if_neg (by omega)]
        exact run_copy_cells w 42 42 ty 5 b (1024 + a) _ _ _ _ _ (byteCells n z) Tryd.underlying42 size5 (by rw [byteCells_length]; show n = min n (65536 - a); omega)
          (fun j v hv => by obtain ⟨hj, rfl⟩ := byteCells_at hv; rw [Addr.add_mid]; exact hc j hj)
          (fun j hj => by rw [byteCells_length] at hj; rw [Nat.add_assoc, hI.vals (a + j) (by omega)]; rfl) (fun j _ => hI.mks.free _)
          (fun v hv => by obtain ⟨j, _, rfl⟩ := List.mem_map.1 hv; rfl)
    subst hl
    generalize (if a = 65536 then 0 else a) = q at hsl hcp
    go_enter Tryd.func22, Tryd.ntmps22
    go_wp2_with (first | (go_at_call 29; refine hF.mono ?_; rintro e w' ⟨rfl, rfl⟩) | (go_at_call 30; refine hmark.mono ?_; rintro e w2 ⟨rfl, ⟨M2, h2⟩, hg2, ho2⟩))
    go_ret
    exact ⟨rfl, grown_trans hgr hg2, M2, by rw [Int.toNat_natCast]; exact put_img h2 hVs ho2⟩
  · rw [if_neg hk]
    obtain ⟨sa, len, cap, rfl, hl⟩ : ∃ sa len cap, v = .slice sa len cap ∧ len = n := by
      obtain ⟨_, _, sa, cap, rfl, _⟩ := hB
      exact ⟨_, _, _, rfl, rfl⟩
    subst hl
    generalize fitK (fun x => (g x).isSome) at_ len = kk at *
    have hkk : ((kk : Int) == 0) = false := by simp [hk]
    go_enter Tryd.func22, Tryd.ntmps22
    go_wp2_with (go_at_call 29; refine hF.mono ?_; rintro e w' ⟨rfl, rfl⟩)
    go_ret
    exact ⟨rfl, World.grownBy.refl _ _, M, hI⟩
end Go.Proofs.YtjodidkjpdjmoaaDoor
