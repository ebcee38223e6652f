/- What readName, readNumber, readText and read of token do when they are called: the token that a text begins with, as nextL has it; a text has at most 200 bytes. -/
import Derived.Test.YtaoeipbofhkkcaaGreatDoorTokThree
namespace Go.Proofs.YtaoeipbofhkkcaaGreatDoor
open Go.RowKit Go.Proofs.NumMath

/-- a token as a value -/
def tokv (x : Tok) : Value := .agg #[.int .i64 x.k, .string ⟨x.s.toArray⟩, .int .u16 (x.n : Nat)]
def resV : Except Nat (Tok × Nat) → Value
  | .error k => .tuple #[.agg #[.int .i64 0, .string ⟨#[]⟩, .int .u16 0], .int .i64 0, .int .i64 (k : Nat)]
  | .ok (x, m) => .tuple #[tokv x, .int .i64 ((m + 1 : Nat) : Int), .int .i64 0]

theorem readName_any (s : ByteArray) (hs : s.size ≤ 200) (w : World) : Calls Tryz.prog 46 #[.string s] w fun e w' =>
    e = .returned (if 16 < (s.data.toList.takeWhile tailB).length then .tuple #[.agg #[.int .i64 0, .string ⟨#[]⟩, .int .u16 0], .int .i64 0, .int .i64 11]
      else .tuple #[tokv ⟨1, upL (s.data.toList.takeWhile tailB), 0⟩, .int .i64 ((s.data.toList.takeWhile tailB).length : Nat), .int .i64 0]) ∧ Below w.heap.size w w' := by
  have hl := take_while_le tailB s.data.toList
  rw [data_size] at hl
  have hH := fun W => head_name s (by omega) W
  obtain ⟨L, hL⟩ : ∃ L, s.data.toList.takeWhile tailB = L := ⟨_, rfl⟩
  rw [hL] at hl hH ⊢
  clear hL
  have hz := size_mk L
  have hU := fun W => upper_any ⟨L.toArray⟩ (by rw [hz]; omega) W
  obtain ⟨T, hT⟩ : ∃ T : ByteArray, (⟨L.toArray⟩ : ByteArray) = T := ⟨_, rfl⟩
  have hTL : T.data.toList = L := by rw [← hT]
  rw [hT] at hz hH hU
  rw [hTL] at hU
  clear hT hTL
  obtain ⟨n, hn⟩ : ∃ n, L.length = n := ⟨_, rfl⟩
  rw [hn] at hz hl ⊢
  have HZ := Lib.hid hz
  have hz1 : T.size ≤ 200 := by omega
  by_cases h16 : 16 < n
  · have h16' : 16 < T.size := by omega
    rw [if_pos h16]
    clear hn hz hl
    go_enter Tryz.func46, Tryz.ntmps46
    go_wp2_with (first | (go_at_call 66; refine (hH _).mono ?_; rintro e w' ⟨rfl, hb⟩; have hk := at_below hb (at_new w _); obtain ⟨⟨_, _, _⟩, _, _, _⟩ := three hk; have hB := below_new _ hb; clear hb) | (go_at_call 68; refine (hU _).mono ?_; rintro e w2 ⟨rfl, hb2⟩; have hk2 := at_below hb2 hk; obtain ⟨⟨_, _, _⟩, _, _, _⟩ := three hk2; have hB2 := below_step hB hb2; clear hb2))
    exact fin42 rfl rfl rfl rfl (set3 hk) rfl ⟨rfl, below_set3 hB⟩
  · have h16' : ¬ 16 < T.size := by omega
    rw [if_neg h16]
    clear hn hz hl
    go_enter Tryz.func46, Tryz.ntmps46
    go_wp2_with (first | (go_at_call 66; refine (hH _).mono ?_; rintro e w' ⟨rfl, hb⟩; have hk := at_below hb (at_new w _); obtain ⟨⟨_, _, _⟩, _, _, _⟩ := three hk; have hB := below_new _ hb; clear hb) | (go_at_call 68; refine (hU _).mono ?_; rintro e w2 ⟨rfl, hb2⟩; have hk2 := at_below hb2 hk; obtain ⟨⟨_, _, _⟩, _, _, _⟩ := three hk2; have hB2 := below_step hB hb2; clear hb2))
    exact fin42 rfl rfl rfl rfl (set3 hk2) rfl ⟨by rw [HZ.out]; rfl, below_set3 hB2⟩
/-- what a token's reading of some kind answers: the token and how long it is, or the kind of error -/
def ansV (x : Tok) (n k : Nat) : Value := if k = 0 then .tuple #[tokv x, .int .i64 (n : Nat), .int .i64 0] else .tuple #[.agg #[.int .i64 0, .string ⟨#[]⟩, .int .u16 0], .int .i64 0, .int .i64 (k : Nat)]
theorem readNumber_any (s : ByteArray) (hs : s.size ≤ 200) (w : World) : Calls Tryz.prog 48 #[.string s] w fun e w' =>
    e = .returned (ansV ⟨2, [], (parseL (s.data.toList.takeWhile alnB)).1⟩ (s.data.toList.takeWhile alnB).length (parseL (s.data.toList.takeWhile alnB)).2) ∧ Below w.heap.size w w' := by
  have hl := take_while_le alnB s.data.toList
  rw [data_size] at hl
  have hH := fun W => head_num s (by omega) W
  obtain ⟨L, hL⟩ : ∃ L, s.data.toList.takeWhile alnB = L := ⟨_, rfl⟩
  rw [hL] at hl hH ⊢
  clear hL
  have hz := size_mk L
  have hU := fun W => parse_any ⟨L.toArray⟩ (by rw [hz]; omega) W
  have hbd := parseL_bd L
  obtain ⟨T, hT⟩ : ∃ T : ByteArray, (⟨L.toArray⟩ : ByteArray) = T := ⟨_, rfl⟩
  have hTL : T.data.toList = L := by rw [← hT]
  rw [hT] at hz hH hU
  rw [hTL] at hU
  clear hT hTL
  obtain ⟨⟨v, k⟩, hp⟩ : ∃ q, parseL L = q := ⟨_, rfl⟩
  rw [hp] at hU hbd ⊢
  obtain ⟨n, hn⟩ : ∃ n, L.length = n := ⟨_, rfl⟩
  rw [hn] at hz hl ⊢
  have HZ := Lib.hid hz
  have hz1 : T.size ≤ 200 := by omega
  simp only at hU hbd ⊢
  clear hp hn hz
  by_cases h0 : k = 0
  · subst h0
    go_enter Tryz.func48, Tryz.ntmps48
    go_wp2_with (first | (go_at_call 66; refine (hH _).mono ?_; rintro e w' ⟨rfl, hb⟩; have hk := at_below hb (at_new w _); obtain ⟨⟨_, _, _⟩, _, _, _⟩ := three hk; have hB := below_new _ hb; clear hb) | (go_at_call 71; refine (hU _).mono ?_; rintro e w2 ⟨rfl, hb2⟩; have hk2 := at_below hb2 hk; obtain ⟨⟨_, _, _⟩, _, _, _⟩ := three hk2; have hB2 := below_step hB hb2; clear hb2))
    exact fin42 rfl rfl rfl rfl (set3 hk2) rfl ⟨by rw [HZ.out]; rfl, below_set3 hB2⟩
  · have hk0 : ((k : Int) != 0) = true := by simp; omega
    go_enter Tryz.func48, Tryz.ntmps48
    go_wp2_with (first | (go_at_call 66; refine (hH _).mono ?_; rintro e w' ⟨rfl, hb⟩; have hk := at_below hb (at_new w _); obtain ⟨⟨_, _, _⟩, _, _, _⟩ := three hk; have hB := below_new _ hb; clear hb) | (go_at_call 71; refine (hU _).mono ?_; rintro e w2 ⟨rfl, hb2⟩; have hk2 := at_below hb2 hk; obtain ⟨⟨_, _, _⟩, _, _, _⟩ := three hk2; have hB2 := below_step hB hb2; clear hb2))
    exact fin42 rfl rfl rfl rfl (set3 hk2) rfl ⟨by unfold ansV; rw [if_neg h0]; rfl, below_set3 hB2⟩

/-! ### a text in quotes -/
theorem scan_le : ∀ (N : Nat) (t : List UInt8) (m : Nat), t.length ≤ N → scanQ t = some m → 1 ≤ m ∧ m ≤ t.length
  | _, [], m, _, h => by simp [scanQ] at h
  | _, [c], m, _, h => by
    rw [scanQ] at h
    by_cases hc : c = 39
    · rw [if_pos hc] at h; cases h; simp
    · rw [if_neg hc] at h; cases h
  | 0, c :: d :: u, m, hN, _ => by simp at hN
  | N + 1, c :: d :: u, m, hN, h => by
    rw [scanQ] at h
    by_cases hc : c = 39
    · rw [if_pos hc] at h
      by_cases hd : d = 39
      · rw [if_pos hd] at h
        cases hq : scanQ u with
        | none => rw [hq] at h; cases h
        | some q => rw [hq] at h; cases h; have := scan_le N u q (by simp at hN; omega) hq; simp; omega
      · rw [if_neg hd] at h; cases h; simp
    · rw [if_neg hc] at h
      cases hq : scanQ (d :: u) with
      | none => rw [hq] at h; cases h
      | some q => rw [hq] at h; cases h; have := scan_le N (d :: u) q (by simp at hN ⊢; omega) hq; simp at this ⊢; omega
theorem unq_cons_none (c : UInt8) (x : List UInt8) (h : c ≠ 39) (hx : unqIn x = none) : unqIn (c :: x) = none := by
  cases ho : ok c
  · exact unq_bad c x ho
  · rw [unq_step c x h ho, hx]; rfl
/-- a text that no quote ends, but for one that stands behind another, is none -/
theorem scan_none : ∀ (N : Nat) (t : List UInt8), t.length ≤ N → t ≠ [] → lastN t = 39 → scanQ t = none → unqIn t.dropLast = none
  | _, [], _, h, _, _ => absurd rfl h
  | _, [c], _, _, hl, h => by
    have hc : c = 39 := UInt8.toNat.inj hl
    rw [scanQ, if_pos hc] at h; cases h
  | 0, c :: d :: u, hN, _, _, _ => by simp at hN
  | N + 1, c :: d :: u, hN, _, hl, h => by
    have hld : lastN (d :: u) = 39 := by simpa [lastN] using hl
    by_cases hc : c = 39
    · subst hc
      by_cases hd : d = 39
      · subst hd
        cases u with
        | nil => rfl
        | cons e v =>
          rw [scan_two] at h
          have h2 : scanQ (e :: v) = none := by cases hq : scanQ (e :: v) with
            | none => rfl
            | some q => rw [hq] at h; cases h
          have hle : lastN (e :: v) = 39 := by simpa [lastN] using hld
          have ih := scan_none N (e :: v) (by simp at hN ⊢; omega) (by simp) hle h2
          show unqIn (39 :: 39 :: (e :: v).dropLast) = none
          rw [unq_two, ih]; rfl
      · rw [scanQ, if_pos rfl, if_neg hd] at h; cases h
    · rw [scan_step c _ hc] at h
      have h2 : scanQ (d :: u) = none := by cases hq : scanQ (d :: u) with
        | none => rfl
        | some q => rw [hq] at h; cases h
      have ih := scan_none N (d :: u) (by simp at hN ⊢; omega) (by simp) hld h2
      show unqIn (c :: (d :: u).dropLast) = none
      exact unq_cons_none c _ hc ih
theorem unq_open (c : UInt8) (t : List UInt8) (h : scanQ t = none) : unqL (c :: t) = none := by
  unfold unqL
  by_cases hc : 2 ≤ (c :: t).length ∧ headN (c :: t) = 39 ∧ lastN (c :: t) = 39
  · rw [if_pos hc]
    obtain ⟨h2, _, hl⟩ := hc
    cases t with
    | nil => simp at h2
    | cons d u => exact scan_none _ (d :: u) (Nat.le_refl _) (by simp) (by simpa [lastN] using hl) h
  · rw [if_neg hc]
/-- what is read as a text: the bytes up to the quote that ends it -/
theorem unq_size (c : UInt8) (t : List UInt8) : unqL ((c :: t).take (sizeQ (c :: t))) = match scanQ t with | none => none | some m => unqL (c :: t.take m) := by
  unfold sizeQ
  show unqL ((c :: t).take (match scanQ t with | none => (c :: t).length | some m => m + 1)) = _
  cases h : scanQ t with
  | none => simp only [List.take_length]; exact unq_open c t h
  | some m => rfl
theorem size_le (s : ByteArray) (h0 : 0 < s.size) : sizeQ s.data.toList ≤ s.size := by
  unfold sizeQ
  cases h : scanQ (s.data.toList.drop 1) with
  | none => simp only; rw [data_size]; omega
  | some m => have := (scan_le _ _ m (Nat.le_refl _) h).2; rw [List.length_drop, data_size] at this; simp only; omega

theorem readText_any (s : ByteArray) (h0 : 0 < s.size) (hs : s.size ≤ 200) (m : Int) (w : World) (hm : MaxAt w m) : Calls Tryz.prog 49 #[.string s] w fun e w' =>
    e = .returned (ansV ⟨3, (unR (unqL (s.data.toList.take (sizeQ s.data.toList)))).1, 0⟩ (sizeQ s.data.toList) (unR (unqL (s.data.toList.take (sizeQ s.data.toList)))).2) ∧ Below w.heap.size w w' := by
  have hS := fun W => size_any s h0 (by omega) W
  have hle := size_le s h0
  obtain ⟨n, hn⟩ : ∃ n, sizeQ s.data.toList = n := ⟨_, rfl⟩
  rw [hn] at hS hle ⊢
  clear hn
  have hx := extract_take s n
  obtain ⟨L, hL⟩ : ∃ L, s.data.toList.take n = L := ⟨_, rfl⟩
  rw [hL] at hx ⊢
  have hll : L.length ≤ 200 := by rw [← hL, List.length_take, data_size]; omega
  clear hL
  have hU := fun W h => unq_any ⟨L.toArray⟩ (by rw [size_mk]; omega) m W h
  rw [← hx] at hU
  rw [show (s.extract 0 n).data.toList = L by rw [hx]] at hU
  clear hx hll
  obtain ⟨⟨u, k⟩, hp⟩ : ∃ q, unR (unqL L) = q := ⟨_, rfl⟩
  rw [hp] at hU ⊢
  simp only at hU ⊢
  clear hp
  have hmw : ∀ o, MaxAt (w.alloc o) m := fun o => hm.below ((Below.refl _ _).alloc (Nat.le_refl _) _)
  by_cases hk0 : k = 0
  · subst hk0
    go_enter Tryz.func49, Tryz.ntmps49
    go_wp2_with (first | (go_at_call 72; refine (hS _).mono ?_; rintro e w' ⟨rfl, rfl⟩) | (go_at_call 73; refine (hU _ (hmw _)).mono ?_; rintro e w2 ⟨rfl, hb⟩; have hk2 := at_below hb (at_new w _); obtain ⟨⟨_, _, _⟩, _, _, _⟩ := three hk2; have hB2 := below_new _ hb; clear hb))
    exact fin42 rfl rfl rfl rfl (set3 hk2) rfl ⟨rfl, below_set3 hB2⟩
  · have hk1 : ((k : Int) != 0) = true := by simp; omega
    go_enter Tryz.func49, Tryz.ntmps49
    go_wp2_with (first | (go_at_call 72; refine (hS _).mono ?_; rintro e w' ⟨rfl, rfl⟩) | (go_at_call 73; refine (hU _ (hmw _)).mono ?_; rintro e w2 ⟨rfl, hb⟩; have hk2 := at_below hb (at_new w _); obtain ⟨⟨_, _, _⟩, _, _, _⟩ := three hk2; have hB2 := below_new _ hb; clear hb))
    exact fin42 rfl rfl rfl rfl (set3 hk2) rfl ⟨by unfold ansV; rw [if_neg hk0]; rfl, below_set3 hB2⟩
end Go.Proofs.YtaoeipbofhkkcaaGreatDoor
