/- What the document's next does when it is called: the token that a text begins with, as nextL has it; a text has at least one byte and at most 200. -/
import Derived.Test.YtblbcdofiheikaaDoorToks
namespace Go.Proofs.YtblbcdofiheikaaDoor
open Go.RowKit Go.Proofs.NumMath

def NextR : Except Nat (Tok × Nat) → Value → Prop
  | .error q, v => ∃ (a : Int) (b : ByteArray) (z n : Int), v = .tuple #[.agg #[.int .i64 a, .string b, .int .u16 z], .int .i64 n, .int .i64 (q : Nat)]
  | .ok (x, m), v => v = .tuple #[.agg #[.int .i64 x.k, .string ⟨x.s.toArray⟩, .int .u16 (x.n : Nat)], .int .i64 ((m + 1 : Nat) : Int), .int .i64 0]
theorem head_at (c : UInt8) (t : List UInt8) (s : ByteArray) (hd : s.data.toList = c :: t) : ∃ h0 : 0 < s.size, s[0]'h0 = c ∧ s.size = t.length + 1 := by
  have hsz := data_size s
  have h0 : 0 < s.size := by rw [← hsz, hd]; simp
  refine ⟨h0, ?_, by rw [← hsz, hd]; simp⟩
  have := drop_at s 0 h0
  rw [List.drop_zero, hd] at this
  exact (List.cons.inj this).1.symm
/-- how many bytes of a kind follow the first -/
def wid (q : UInt8 → Bool) (t : List UInt8) : Nat := (t.takeWhile q).length
theorem wid_take (q : UInt8 → Bool) (c : UInt8) (t : List UInt8) : (c :: t).take (wid q t + 1) = c :: t.takeWhile q := by
  rw [List.take_succ_cons]; unfold wid; rw [take_while_take]

set_option maxRecDepth 100000 in
set_option maxHeartbeats 4000000 in
theorem next_name (c : UInt8) (t : List UInt8) (s : ByteArray) (hd : s.data.toList = c :: t) (hs : s.size ≤ 200) (hl : letter c.toNat = true) (w : World) : Calls Tryd.prog 23 #[.string s] w fun e w' =>
    ∃ v, e = .returned v ∧ NextR (nextL c t) v ∧ Below w.heap.size w w' := by
  obtain ⟨h0, hc0, hst⟩ := head_at c t s hd
  have hc8 := c.toNat_lt
  have hL := fun W => letter_any c.toNat (by omega) W
  rw [hl] at hL
  have hx1 := extract_take s (wid tailB t + 1)
  rw [hd, wid_take] at hx1
  have hU := fun W => rupper_any (s.extract 0 (wid tailB t + 1)) (by simp; omega) W
  rw [hx1] at hU
  rw [← hx1] at hU
  have hxd : (s.extract 0 (wid tailB t + 1)).data.toList = c :: t.takeWhile tailB := by rw [hx1]
  have hwle : wid tailB t ≤ t.length := take_while_le tailB t
  have hres : nextL c t = if 16 < wid tailB t + 1 then .error 11 else .ok (⟨1, upL (c :: t.takeWhile tailB), 0⟩, wid tailB t) := by
    unfold nextL; rw [if_pos hl]; rfl
  have hdw : s.data.toList.drop 1 = t := by rw [hd]; rfl
  have hinv : wid tailB t + 1 = 1 + wid tailB (s.data.toList.drop 1) := by rw [hdw]; omega
  rw [hxd] at hU
  obtain ⟨N, hN⟩ : ∃ N, wid tailB t + 1 = N := ⟨_, rfl⟩
  rw [hN] at hU hres hinv hx1
  obtain ⟨T, hT⟩ : ∃ T : List UInt8, upL (c :: t.takeWhile tailB) = T := ⟨_, rfl⟩
  rw [hT] at hU hres
  have HI := Lib.hid hinv
  have HR := Lib.hid hres
  have hN200 : N ≤ s.size := by omega
  have hN1 : 1 ≤ N := by omega
  have HN := Lib.hid hN
  have hA : 16 < N → NextR (nextL c t) (.tuple #[.agg #[.int .i64 0, .string ⟨#[]⟩, .int .u16 0], .int .i64 0, .int .i64 11]) := fun h => by
    rw [HR.out, if_pos h]; exact ⟨_, _, _, _, rfl⟩
  have hA2 : ¬ 16 < N → NextR (nextL c t) (.tuple #[.agg #[.int .i64 1, .string ⟨T.toArray⟩, .int .u16 0], .int .i64 (N : Nat), .int .i64 0]) := fun h => by
    rw [HR.out, if_neg h]; show _ = _; rw [← HN.out]; rfl
  clear hinv hres hT hx1 hdw hxd hN hd hl
  go_enter Tryd.func23, Tryd.ntmps23
  go_wp2_with (go_at_call 43; refine (hL _).mono ?_; rintro e w1 ⟨rfl, rfl⟩)
  go_loop [5] (fun i => ∃ k : Nat, 1 ≤ k ∧ k ≤ s.size ∧ i = .int .i64 k ∧ Hid (N = k + wid tailB (s.data.toList.drop k))) (fun i => s.size - (intOf i).toNat)
  case atStart => exact ⟨1, by omega, by omega, rfl, HI⟩
  case round =>
    obtain ⟨k, hk1, hk, rfl, HQ⟩ := hrel
    have hend : (∀ h : k < s.size, tailB (s[k]'h) = false) → N = k := fun h => by
      by_cases hlt : k < s.size
      · have e := HQ.out
        rw [drop_at s k hlt] at e
        unfold wid at e
        rw [List.takeWhile_cons, h hlt] at e
        exact e
      · have e := HQ.out
        rw [drop_end s k hlt] at e
        exact e
    by_cases hlt : k < s.size
    · obtain ⟨x, hx⟩ : ∃ x, s[k]'hlt = x := ⟨_, rfl⟩
      have hT := fun W => rtail_any x W
      cases ht : tailB x
      · obtain rfl := hend (fun h => by rw [← ht, ← hx])
        rw [ht] at hT
        clear ht hend HQ
        by_cases h16 : 16 < N
        · go_wp2_with (first | (go_at_call 44; refine (hT _).mono ?_; rintro e w1 ⟨rfl, rfl⟩))
          exact fin41 rfl rfl rfl rfl (at_new w _) rfl ⟨_, rfl, hA h16, (Below.refl w.heap.size w).alloc (Nat.le_refl _) _⟩
        · go_wp2_with (first | (go_at_call 44; refine (hT _).mono ?_; rintro e w1 ⟨rfl, rfl⟩) | (go_at_call 45; refine (hU _).mono ?_; rintro e w3 ⟨rfl, hb2⟩; have hk2 := at_below hb2 (at_new w _); obtain ⟨⟨_, _, _⟩, _, _, _⟩ := three hk2; have hB2 := below_new _ hb2; clear hb2))
          exact fin41 rfl rfl rfl rfl (set3 hk2) rfl ⟨_, rfl, hA2 h16, below_set3 hB2⟩
      · rw [ht] at hT
        go_wp2_with (first | (go_at_call 44; refine (hT _).mono ?_; rintro e w1 ⟨rfl, rfl⟩))
        refine ⟨⟨k + 1, by omega, by omega, by go_num, Lib.hid ?_⟩, by simp [intOf]; omega⟩
        have e := HQ.out
        rw [drop_at s k hlt] at e
        unfold wid at e ⊢
        rw [List.takeWhile_cons, hx, ht] at e
        simp at e
        omega
    · obtain rfl := hend (fun h => absurd h hlt)
      clear hend HQ
      by_cases h16 : 16 < N
      · go_wp2
        exact fin41 rfl rfl rfl rfl (at_new w _) rfl ⟨_, rfl, hA h16, (Below.refl w.heap.size w).alloc (Nat.le_refl _) _⟩
      · go_wp2_with (go_at_call 45; refine (hU _).mono ?_; rintro e w3 ⟨rfl, hb2⟩; have hk2 := at_below hb2 (at_new w _); obtain ⟨⟨_, _, _⟩, _, _, _⟩ := three hk2; have hB2 := below_new _ hb2; clear hb2)
        exact fin41 rfl rfl rfl rfl (set3 hk2) rfl ⟨_, rfl, hA2 h16, below_set3 hB2⟩
set_option maxRecDepth 100000 in
set_option maxHeartbeats 4000000 in
theorem next_num (c : UInt8) (t : List UInt8) (s : ByteArray) (hd : s.data.toList = c :: t) (hs : s.size ≤ 200) (hl : letter c.toNat = false) (hg : digB c = true) (w : World) : Calls Tryd.prog 23 #[.string s] w fun e w' =>
    ∃ v, e = .returned v ∧ NextR (nextL c t) v ∧ Below w.heap.size w w' := by
  obtain ⟨h0, hc0, hst⟩ := head_at c t s hd
  have hc8 := c.toNat_lt
  have hL := fun W => letter_any c.toNat (by omega) W
  rw [hl] at hL
  have hg2 : 48 ≤ c.toNat ∧ c.toNat ≤ 57 := by unfold digB at hg; simpa using hg
  obtain ⟨hg3, hg4⟩ := hg2
  have hx1 := extract_take s (wid alnB t + 1)
  rw [hd, wid_take] at hx1
  have hU := fun W => rparse_any (s.extract 0 (wid alnB t + 1)) (by simp; omega) W
  have hxd : (s.extract 0 (wid alnB t + 1)).data.toList = c :: t.takeWhile alnB := by rw [hx1]
  have hwle : wid alnB t ≤ t.length := take_while_le alnB t
  rw [hxd] at hU
  have hres : nextL c t = if (parseL (c :: t.takeWhile alnB)).2 = 0 then .ok (⟨2, [], (parseL (c :: t.takeWhile alnB)).1⟩, wid alnB t) else .error (parseL (c :: t.takeWhile alnB)).2 := by
    unfold nextL; rw [hl, if_neg (by simp), if_pos hg]; rfl
  have hdw : s.data.toList.drop 1 = t := by rw [hd]; rfl
  have hinv : wid alnB t + 1 = 1 + wid alnB (s.data.toList.drop 1) := by rw [hdw]; omega
  obtain ⟨N, hN⟩ : ∃ N, wid alnB t + 1 = N := ⟨_, rfl⟩
  rw [hN] at hU hinv
  obtain ⟨⟨v, kk⟩, hP⟩ : ∃ q, parseL (c :: t.takeWhile alnB) = q := ⟨_, rfl⟩
  rw [hP] at hU hres
  simp only at hU hres
  have HI := Lib.hid hinv
  have HR := Lib.hid hres
  have hN200 : N ≤ s.size := by omega
  have hN1 : 1 ≤ N := by omega
  have HN := Lib.hid hN
  have hA : NextR (nextL c t) (.tuple #[.agg #[.int .i64 2, .string ⟨#[]⟩, .int .u16 (v : Nat)], .int .i64 (N : Nat), .int .i64 (kk : Nat)]) := by
    rw [HR.out]
    by_cases h : kk = 0
    · rw [if_pos h, h, ← HN.out]; rfl
    · rw [if_neg h]; exact ⟨_, _, _, _, rfl⟩
  have hd57 : decide ((c.toNat : Int) ≤ 57) = true := decide_eq_true (by omega)
  clear hinv hres hP hx1 hdw hxd hN hd hl hg HR
  go_enter Tryd.func23, Tryd.ntmps23
  go_wp2_with (go_at_call 43; refine (hL _).mono ?_; rintro e w1 ⟨rfl, rfl⟩)
  go_loop [5] (fun i => ∃ k : Nat, 1 ≤ k ∧ k ≤ s.size ∧ i = .int .i64 k ∧ Hid (N = k + wid alnB (s.data.toList.drop k))) (fun i => s.size - (intOf i).toNat)
  case atStart => exact ⟨1, by omega, by omega, rfl, HI⟩
  case round =>
    obtain ⟨k, hk1, hk, rfl, HQ⟩ := hrel
    have hend : (∀ h : k < s.size, alnB (s[k]'h) = false) → N = k := fun h => by
      by_cases hlt : k < s.size
      · have e := HQ.out
        rw [drop_at s k hlt] at e
        unfold wid at e
        rw [List.takeWhile_cons, h hlt] at e
        exact e
      · have e := HQ.out
        rw [drop_end s k hlt] at e
        exact e
    by_cases hlt : k < s.size
    · obtain ⟨x, hx⟩ : ∃ x, s[k]'hlt = x := ⟨_, rfl⟩
      have hT := fun W => ralnum_any x W
      cases ht : alnB x
      · obtain rfl := hend (fun h => by rw [← ht, ← hx])
        rw [ht] at hT
        clear ht hend HQ
        go_wp2_with (first | (go_at_call 46; refine (hT _).mono ?_; rintro e w1 ⟨rfl, rfl⟩) | (go_at_call 47; refine (hU _).mono ?_; rintro e w3 ⟨rfl, hb2⟩; have hk2 := at_below hb2 (at_new w _); obtain ⟨⟨_, _, _⟩, _, _, _⟩ := three hk2; have hB2 := below_new _ hb2; clear hb2))
        exact fin41 rfl rfl rfl rfl (set3 hk2) rfl ⟨_, rfl, hA, below_set3 hB2⟩
      · rw [ht] at hT
        go_wp2_with (first | (go_at_call 46; refine (hT _).mono ?_; rintro e w1 ⟨rfl, rfl⟩))
        go_round
        case rel =>
          refine ⟨k + 1, by omega, by omega, by go_num, Lib.hid ?_⟩
          have e := HQ.out
          rw [drop_at s k hlt] at e
          unfold wid at e ⊢
          rw [List.takeWhile_cons, hx, ht] at e
          simp at e
          omega
        case measure => simp [intOf]; omega
    · obtain rfl := hend (fun h => absurd h hlt)
      clear hend HQ
      go_wp2_with (go_at_call 47; refine (hU _).mono ?_; rintro e w3 ⟨rfl, hb2⟩; have hk2 := at_below hb2 (at_new w _); obtain ⟨⟨_, _, _⟩, _, _, _⟩ := three hk2; have hB2 := below_new _ hb2; clear hb2)
      exact fin41 rfl rfl rfl rfl (set3 hk2) rfl ⟨_, rfl, hA, below_set3 hB2⟩
theorem dig_no {c : UInt8} (h : digB c = false) : c.toNat < 48 ∨ (48 ≤ c.toNat ∧ 57 < c.toNat) := by
  unfold digB at h
  simp at h
  omega

set_option maxRecDepth 100000 in
set_option maxHeartbeats 4000000 in
theorem next_mark (c : UInt8) (t : List UInt8) (s : ByteArray) (hd : s.data.toList = c :: t) (hl : letter c.toNat = false) (hg : digB c = false) (h39 : c ≠ 39) (w : World) : Calls Tryd.prog 23 #[.string s] w fun e w' =>
    ∃ v, e = .returned v ∧ NextR (nextL c t) v ∧ Below w.heap.size w w' := by
  obtain ⟨h0, hc0, hst⟩ := head_at c t s hd
  have hc8 := c.toNat_lt
  have hL := fun W => letter_any c.toNat (by omega) W
  rw [hl] at hL
  have hM := fun W => rmark_any c W
  have hx1 : s.extract 0 1 = ⟨#[c]⟩ := by rw [extract_take, hd]; rfl
  have HX := Lib.hid hx1
  have h39n : ((c.toNat : Int) == 39) = false := by
    rw [beq_eq_false_iff_ne]; intro e; exact h39 (UInt8.toNat.inj (by omega : c.toNat = 39))
  have hA : markB c = false → NextR (nextL c t) (.tuple #[.agg #[.int .i64 0, .string ⟨#[]⟩, .int .u16 0], .int .i64 0, .int .i64 2]) := fun h => by
    have hres : nextL c t = .error 2 := by
      unfold nextL
      rw [hl, hg, h, if_neg (by simp), if_neg (by simp), if_neg h39, if_neg (by simp)]
    rw [hres]; exact ⟨_, _, _, _, rfl⟩
  have hA2 : markB c = true → NextR (nextL c t) (.tuple #[.agg #[.int .i64 4, .string (s.extract 0 1), .int .u16 0], .int .i64 1, .int .i64 0]) := fun h => by
    have hres : nextL c t = .ok (⟨4, [c], 0⟩, 0) := by
      unfold nextL
      rw [hl, hg, h, if_neg (by simp), if_neg (by simp), if_neg h39, if_pos rfl]
    rw [hres, HX.out]; rfl
  have hgg := dig_no hg
  cases hm : markB c
  · have hA := hA hm
    rw [hm] at hM
    clear hA2 hx1 hd hl hg hm
    rcases hgg with h1 | ⟨h1, h2⟩
    · go_enter Tryd.func23, Tryd.ntmps23
      go_wp2_with (first | (go_at_call 43; refine (hL _).mono ?_; rintro e w1 ⟨rfl, rfl⟩) | (go_at_call 49; refine (hM _).mono ?_; rintro e w1 ⟨rfl, rfl⟩))
      exact fin41 rfl rfl rfl rfl (at_new w _) rfl ⟨_, rfl, hA, (Below.refl w.heap.size w).alloc (Nat.le_refl _) _⟩
    · go_enter Tryd.func23, Tryd.ntmps23
      go_wp2_with (first | (go_at_call 43; refine (hL _).mono ?_; rintro e w1 ⟨rfl, rfl⟩) | (go_at_call 49; refine (hM _).mono ?_; rintro e w1 ⟨rfl, rfl⟩))
      exact fin41 rfl rfl rfl rfl (at_new w _) rfl ⟨_, rfl, hA, (Below.refl w.heap.size w).alloc (Nat.le_refl _) _⟩
  · have hA := hA2 hm
    rw [hm] at hM
    clear hA2 hx1 hd hl hg hm
    rcases hgg with h1 | ⟨h1, h2⟩
    · go_enter Tryd.func23, Tryd.ntmps23
      go_wp2_with (first | (go_at_call 43; refine (hL _).mono ?_; rintro e w1 ⟨rfl, rfl⟩) | (go_at_call 49; refine (hM _).mono ?_; rintro e w1 ⟨rfl, rfl⟩))
      exact fin41 rfl rfl rfl rfl (at_new w _) rfl ⟨_, rfl, hA, (Below.refl w.heap.size w).alloc (Nat.le_refl _) _⟩
    · go_enter Tryd.func23, Tryd.ntmps23
      go_wp2_with (first | (go_at_call 43; refine (hL _).mono ?_; rintro e w1 ⟨rfl, rfl⟩) | (go_at_call 49; refine (hM _).mono ?_; rintro e w1 ⟨rfl, rfl⟩))
      exact fin41 rfl rfl rfl rfl (at_new w _) rfl ⟨_, rfl, hA, (Below.refl w.heap.size w).alloc (Nat.le_refl _) _⟩

set_option maxRecDepth 100000 in
set_option maxHeartbeats 4000000 in
theorem next_text (t : List UInt8) (s : ByteArray) (hd : s.data.toList = 39 :: t) (hs : s.size ≤ 200) (w : World) : Calls Tryd.prog 23 #[.string s] w fun e w' =>
    ∃ v, e = .returned v ∧ NextR (nextL 39 t) v ∧ Below w.heap.size w w' := by
  obtain ⟨h0, hc0, hst⟩ := head_at 39 t s hd
  have hL := fun W => letter_any 39 (by omega) W
  rw [show letter 39 = false by decide] at hL
  have hdw : s.data.toList.drop 1 = t := by rw [hd]; rfl
  have hU := fun (k : Nat) W => runq_any (s.extract 0 (k + 1)) (by simp; omega) W
  have hxd : ∀ k : Nat, (s.extract 0 (k + 1)).data.toList = 39 :: t.take k := fun k => by rw [extract_take, hd]; simp
  have hA : ∀ k : Nat, scanQ t = some k → NextR (nextL 39 t) (.tuple #[.agg #[.int .i64 3, .string ⟨(unR (unqL (39 :: t.take k))).1.toArray⟩, .int .u16 0], .int .i64 ((k + 1 : Nat) : Int), .int .i64 ((unR (unqL (39 :: t.take k))).2 : Nat)]) := fun k h => by
    have hres : nextL 39 t = match unqL (39 :: t.take k) with | none => .error 2 | some u => .ok (⟨3, u, 0⟩, k) := by
      unfold nextL
      rw [if_neg (by decide), if_neg (by decide), if_pos rfl, h]; rfl
    rw [hres]
    cases unqL (39 :: t.take k) with
    | none => exact ⟨_, _, _, _, rfl⟩
    | some u => rfl
  have hA0 : scanQ t = none → NextR (nextL 39 t) (.tuple #[.agg #[.int .i64 0, .string ⟨#[]⟩, .int .u16 0], .int .i64 0, .int .i64 2]) := fun h => by
    have hres : nextL 39 t = .error 2 := by
      unfold nextL
      rw [if_neg (by decide), if_neg (by decide), if_pos rfl, h]
    rw [hres]; exact ⟨_, _, _, _, rfl⟩
  have HU := Lib.hid hU
  have HA := Lib.hid hA
  have HX := Lib.hid hxd
  have hs0 : Hid (scanQ t = (scanQ (s.data.toList.drop 1)).map (· + (1 - 1))) := Lib.hid (by rw [hdw]; simp)
  clear hU hA hxd hdw hd
  go_enter Tryd.func23, Tryd.ntmps23
  go_wp2_with (go_at_call 43; refine (hL _).mono ?_; rintro e w1 ⟨rfl, rfl⟩)
  go_loop [5] (fun i => ∃ k : Nat, 1 ≤ k ∧ k ≤ s.size ∧ i = .int .i64 k ∧ Hid (scanQ t = (scanQ (s.data.toList.drop k)).map (· + (k - 1)))) (fun i => s.size - (intOf i).toNat)
  case atStart => exact ⟨1, by omega, by omega, rfl, hs0⟩
  case round =>
    obtain ⟨k, hk1, hk, rfl, HQ⟩ := hrel
    by_cases hlt : k < s.size
    · have hd := drop_at s k hlt
      obtain ⟨x, hx⟩ : ∃ x, s[k]'hlt = x := ⟨_, rfl⟩
      rw [hx] at hd
      have HD := Lib.hid hd
      clear hd
      by_cases h39 : x.toNat = 39
      · obtain rfl : x = 39 := UInt8.toNat.inj h39
        have hone : (∀ d ∈ (s.data.toList.drop (k + 1)).head?, d ≠ 39) → scanQ t = some k := fun h => by
          rw [HQ.out, HD.out, scan_one _ h]; simp; omega
        have hUk := fun W => HU.out k W
        rw [HX.out k] at hUk
        have hAk := HA.out k
        obtain ⟨⟨u, kk⟩, hu⟩ : ∃ q, unR (unqL (39 :: t.take k)) = q := ⟨_, rfl⟩
        rw [hu] at hUk hAk
        simp only at hUk hAk
        clear hu
        by_cases hlt2 : k + 1 < s.size
        · have hd2 := drop_at s (k + 1) hlt2
          obtain ⟨y, hy⟩ : ∃ y, s[k + 1]'hlt2 = y := ⟨_, rfl⟩
          rw [hy] at hd2
          have HD2 := Lib.hid hd2
          clear hd2
          by_cases hy39 : y.toNat = 39
          · obtain rfl : y = 39 := UInt8.toNat.inj hy39
            clear hone hAk hUk
            go_wp2
            refine ⟨⟨k + 2, by omega, by omega, by go_num, Lib.hid ?_⟩, by simp [intOf]; omega⟩
            rw [HQ.out, HD.out, HD2.out, scan_two, map_map_add, show 2 + (k - 1) = k + 2 - 1 by omega]
          · have hAk := hAk (hone (fun d hd => by rw [HD2.out] at hd; simp at hd; rw [← hd]; intro e; exact hy39 (by rw [e]; rfl)))
            clear hone
            go_wp2_with (go_at_call 48; refine (hUk _).mono ?_; rintro e w3 ⟨rfl, hb2⟩; have hk2 := at_below hb2 (at_new w _); obtain ⟨⟨_, _, _⟩, _, _, _⟩ := three hk2; have hB2 := below_new _ hb2; clear hb2)
            exact fin41 rfl rfl rfl rfl (set3 hk2) rfl ⟨_, rfl, hAk, below_set3 hB2⟩
        · have hAk := hAk (hone (fun d hd => by rw [drop_end s _ hlt2] at hd; simp at hd))
          clear hone
          go_wp2_with (go_at_call 48; refine (hUk _).mono ?_; rintro e w3 ⟨rfl, hb2⟩; have hk2 := at_below hb2 (at_new w _); obtain ⟨⟨_, _, _⟩, _, _, _⟩ := three hk2; have hB2 := below_new _ hb2; clear hb2)
          exact fin41 rfl rfl rfl rfl (set3 hk2) rfl ⟨_, rfl, hAk, below_set3 hB2⟩
      · go_wp2
        refine ⟨⟨k + 1, by omega, by omega, by go_num, Lib.hid ?_⟩, by simp [intOf]; omega⟩
        rw [HQ.out, HD.out, scan_step _ _ (fun e => h39 (by rw [e]; rfl)), map_map_add, show 1 + (k - 1) = k + 1 - 1 by omega]
    · have hA0 := hA0 (by rw [HQ.out, drop_end s k hlt]; rfl)
      obtain rfl : k = s.size := by omega
      go_wp2
      exact fin41 rfl rfl rfl rfl (at_new w _) rfl ⟨_, rfl, hA0, (Below.refl w.heap.size w).alloc (Nat.le_refl _) _⟩

theorem next_any (c : UInt8) (t : List UInt8) (s : ByteArray) (hd : s.data.toList = c :: t) (hs : s.size ≤ 200) (w : World) : Calls Tryd.prog 23 #[.string s] w fun e w' =>
    ∃ v, e = .returned v ∧ NextR (nextL c t) v ∧ Below w.heap.size w w' := by
  cases hl : letter c.toNat
  · cases hg : digB c
    · by_cases h : c = 39
      · subst h; exact next_text t s hd hs w
      · exact next_mark c t s hd hl hg h w
    · exact next_num c t s hd hs hl hg w
  · exact next_name c t s hd hs hl w
end Go.Proofs.YtblbcdofiheikaaDoor
