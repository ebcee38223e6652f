/- What read of token does when it is called: the token that a text begins with, as nextL has it; a text has at least one byte and at most 200. -/
import Derived.Test.YtaoeipbofhkkcaaGreatDoorTokReads
namespace Go.Proofs.YtaoeipbofhkkcaaGreatDoor
open Go.RowKit Go.Proofs.NumMath

theorem resV_shape (r : Except Nat (Tok × Nat)) : ∃ (a : Int) (b : ByteArray) (c n k : Int), resV r = .tuple #[.agg #[.int .i64 a, .string b, .int .u16 c], .int .i64 n, .int .i64 k] := by
  cases r with
  | error k => exact ⟨_, _, _, _, _, rfl⟩
  | ok v => exact ⟨_, _, _, _, _, rfl⟩
theorem res_name (c : UInt8) (t : List UInt8) (h : letter c.toNat = true) :
    (if 16 < ((c :: t).takeWhile tailB).length then (.tuple #[.agg #[.int .i64 0, .string ⟨#[]⟩, .int .u16 0], .int .i64 0, .int .i64 11] : Value)
      else .tuple #[tokv ⟨1, upL ((c :: t).takeWhile tailB), 0⟩, .int .i64 (((c :: t).takeWhile tailB).length : Nat), .int .i64 0]) = resV (nextL c t) := by
  have ht : tailB c = true := by unfold tailB; rw [h]; rfl
  unfold nextL
  rw [if_pos h, List.takeWhile_cons, ht, if_pos rfl, List.length_cons]
  by_cases h16 : 16 < (t.takeWhile tailB).length + 1
  · rw [if_pos h16, if_pos h16]; rfl
  · rw [if_neg h16, if_neg h16]; rfl
theorem dig_aln (c : UInt8) (h : digB c = true) : alnB c = true := by
  have := agree_num.1 c
  rw [← this]
  show (azN c.toNat || digN c.toNat) = true
  rw [show digN c.toNat = digB c from rfl, h]; simp
theorem res_num (c : UInt8) (t : List UInt8) (h0 : letter c.toNat = false) (h : digB c = true) :
    ansV ⟨2, [], (parseL ((c :: t).takeWhile alnB)).1⟩ ((c :: t).takeWhile alnB).length (parseL ((c :: t).takeWhile alnB)).2 = resV (nextL c t) := by
  unfold nextL
  rw [h0, if_neg (by simp), if_pos h, List.takeWhile_cons, dig_aln c h, if_pos rfl, List.length_cons]
  by_cases hp : (parseL (c :: t.takeWhile alnB)).2 = 0
  · rw [if_pos hp]; unfold ansV; rw [if_pos hp]; rfl
  · rw [if_neg hp]; unfold ansV; rw [if_neg hp]; rfl
theorem res_text (t : List UInt8) :
    ansV ⟨3, (unR (unqL (((39 : UInt8) :: t).take (sizeQ (39 :: t))))).1, 0⟩ (sizeQ (39 :: t)) (unR (unqL (((39 : UInt8) :: t).take (sizeQ (39 :: t))))).2 = resV (nextL 39 t) := by
  rw [unq_size]
  unfold nextL
  rw [if_neg (by decide), if_neg (by decide), if_pos rfl]
  unfold sizeQ
  show ansV _ (match scanQ t with | none => _ | some m => m + 1) _ = _
  cases hs : scanQ t with
  | none => rfl
  | some m =>
    simp only
    cases hu : unqL (39 :: t.take m) with
    | none => rfl
    | some u => rfl

set_option maxHeartbeats 2000000 in
theorem read_any (c : UInt8) (t : List UInt8) (s : ByteArray) (hd : s.data.toList = c :: t) (hs : s.size ≤ 200) (m : Int) (w : World) (hm : MaxAt w m) : Calls Tryz.prog 33 #[.string s] w fun e w' =>
    e = .returned (resV (nextL c t)) ∧ Below w.heap.size w w' := by
  have hsz := data_size s
  have h0 : 0 < s.size := by rw [← hsz, hd]; simp
  have hc0 : s[0]'h0 = c := by
    have := drop_at s 0 h0
    rw [List.drop_zero, hd] at this
    exact (List.cons.inj this).1.symm
  have hc8 := c.toNat_lt
  have hmw : ∀ o, MaxAt (w.alloc o) m := fun o => hm.below ((Below.refl _ _).alloc (Nat.le_refl _) _)
  have hD : ∀ W, Calls Tryz.prog 47 #[.int .i32 (c.toNat : Nat)] W fun e w' => e = .returned (.bool (digB c)) ∧ w' = W := fun W => isDigit_any c.toNat W
  have hL := fun W => tbegins_any c.toNat W
  have hM := fun W => cont_any c W
  have hx1 : s.extract 0 1 = ⟨#[c]⟩ := by rw [extract_take, hd]; rfl
  obtain ⟨MK, hMK⟩ : ∃ M : ByteArray, M = ⟨#[44, 40, 41, 91, 93, 43, 45, 42, 47, 58, 36]⟩ := ⟨_, rfl⟩
  cases hl : letter c.toNat
  · rw [hl] at hL
    cases hg : digB c
    · rw [hg] at hD
      by_cases h39 : c.toNat = 39
      · have hT := fun W h => readText_any s h0 hs m W h
        rw [hd] at hT
        obtain rfl : c = 39 := UInt8.toNat.inj h39
        rw [res_text t] at hT
        obtain ⟨a, b, z, n, k, hX⟩ := resV_shape (nextL 39 t)
        rw [hX] at hT ⊢
        clear hX hd hsz hM hx1 hl hg h39
        go_enter Tryz.func33, Tryz.ntmps33
        go_wp2_with (first
          | (go_at_call 45; refine (hL _).mono ?_; rintro e w1 ⟨rfl, hb⟩; have hm1 := (hmw _).below hb; have hk := at_below hb (at_new w _); have hB := below_new _ hb; clear hb)
          | (go_at_call 47; refine (hD _).mono ?_; rintro e w2 ⟨rfl, rfl⟩)
          | (go_at_call 49; refine (hT _ hm1).mono ?_; rintro e w3 ⟨rfl, hb2⟩; have hk2 := at_below hb2 hk; obtain ⟨⟨_, _, _⟩, _, _, _⟩ := three hk2; have hB2 := below_step hB hb2; clear hb2))
        exact fin42 rfl rfl rfl rfl (set3 hk2) rfl ⟨rfl, below_set3 hB2⟩
      · have hq : ((c.toNat : Int) == 39) = false := by rw [beq_eq_false_iff_ne]; omega
        cases hmk : markB c
        · rw [hmk] at hM
          have hres : nextL c t = .error 2 := by
            unfold nextL
            rw [hl, hg, hmk, if_neg (by simp), if_neg (by simp), if_neg (fun e => h39 (by rw [e]; rfl)), if_neg (by simp)]
          rw [hres]
          rw [← hMK] at hM
          clear hd hsz hx1 hl hg hmk hres
          go_enter Tryz.func33, Tryz.ntmps33
          rw [← hMK]
          clear hMK
          go_wp2_with (first
            | (go_at_call 45; refine (hL _).mono ?_; rintro e w1 ⟨rfl, hb⟩; have hk := at_below hb (at_new w _); have hB := below_new _ hb; clear hb)
            | (go_at_call 47; refine (hD _).mono ?_; rintro e w2 ⟨rfl, rfl⟩)
            | (go_at_call 50; refine (hM _).mono ?_; rintro e w3 ⟨rfl, hb2⟩; have hk2 := at_below hb2 hk; obtain ⟨⟨_, _, _⟩, _, _, _⟩ := three hk2; have hB2 := below_step hB hb2; clear hb2))
          exact fin42 rfl rfl rfl rfl (set3 hk2) rfl ⟨rfl, below_set3 hB2⟩
        · rw [hmk] at hM
          have hres : nextL c t = .ok (⟨4, [c], 0⟩, 0) := by
            unfold nextL
            rw [hl, hg, hmk, if_neg (by simp), if_neg (by simp), if_neg (fun e => h39 (by rw [e]; rfl)), if_pos rfl]
          rw [hres]
          rw [← hMK] at hM
          clear hd hsz hl hg hmk hres
          go_enter Tryz.func33, Tryz.ntmps33
          rw [← hMK]
          clear hMK
          have HX := Lib.hid hx1
          clear hx1
          go_wp2_with (first
            | (go_at_call 45; refine (hL _).mono ?_; rintro e w1 ⟨rfl, hb⟩; have hk := at_below hb (at_new w _); have hB := below_new _ hb; clear hb)
            | (go_at_call 47; refine (hD _).mono ?_; rintro e w2 ⟨rfl, rfl⟩)
            | (go_at_call 50; refine (hM _).mono ?_; rintro e w3 ⟨rfl, hb2⟩; have hk2 := at_below hb2 hk; obtain ⟨⟨_, _, _⟩, _, _, _⟩ := three hk2; have hB2 := below_step hB hb2; clear hb2))
          exact fin42 rfl rfl rfl rfl (set3 hk2) rfl ⟨by rw [HX.out]; rfl, below_set3 hB2⟩
    · rw [hg] at hD
      have hT := fun W => readNumber_any s hs W
      rw [hd, res_num c t hl hg] at hT
      obtain ⟨a, b, z, n, k, hX⟩ := resV_shape (nextL c t)
      rw [hX] at hT ⊢
      clear hX hd hsz hM hx1 hl hg
      go_enter Tryz.func33, Tryz.ntmps33
      go_wp2_with (first
        | (go_at_call 45; refine (hL _).mono ?_; rintro e w1 ⟨rfl, hb⟩; have hk := at_below hb (at_new w _); have hB := below_new _ hb; clear hb)
        | (go_at_call 47; refine (hD _).mono ?_; rintro e w2 ⟨rfl, rfl⟩)
        | (go_at_call 48; refine (hT _).mono ?_; rintro e w3 ⟨rfl, hb2⟩; have hk2 := at_below hb2 hk; obtain ⟨⟨_, _, _⟩, _, _, _⟩ := three hk2; have hB2 := below_step hB hb2; clear hb2))
      exact fin42 rfl rfl rfl rfl (set3 hk2) rfl ⟨rfl, below_set3 hB2⟩
  · rw [hl] at hL
    have hT := fun W => readName_any s hs W
    rw [hd, res_name c t hl] at hT
    obtain ⟨a, b, z, n, k, hX⟩ := resV_shape (nextL c t)
    rw [hX] at hT ⊢
    clear hX hd hsz hM hx1 hl hD
    go_enter Tryz.func33, Tryz.ntmps33
    go_wp2_with (first
      | (go_at_call 45; refine (hL _).mono ?_; rintro e w1 ⟨rfl, hb⟩; have hk := at_below hb (at_new w _); have hB := below_new _ hb; clear hb)
      | (go_at_call 46; refine (hT _).mono ?_; rintro e w3 ⟨rfl, hb2⟩; have hk2 := at_below hb2 hk; obtain ⟨⟨_, _, _⟩, _, _, _⟩ := three hk2; have hB2 := below_step hB hb2; clear hb2))
    exact fin42 rfl rfl rfl rfl (set3 hk2) rfl ⟨rfl, below_set3 hB2⟩
end Go.Proofs.YtaoeipbofhkkcaaGreatDoor
