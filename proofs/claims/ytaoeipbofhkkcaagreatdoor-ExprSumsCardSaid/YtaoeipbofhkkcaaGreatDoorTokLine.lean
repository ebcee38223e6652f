/- What Line of token does when it is called: the tokens of a line in a row of its own, or the kind of error; the library's longest text is set. -/
import Derived.Test.YtaoeipbofhkkcaaGreatDoorToks
import Derived.Deep.LoopGhost
namespace Go.Proofs.YtaoeipbofhkkcaaGreatDoor
open Go.RowKit Go.Proofs.NumMath

def lineK (l : List UInt8) : Nat := match lineL l with | .error k => k | .ok _ => 0
def lineV (l : List UInt8) : List Tok := match lineL l with | .error _ => [] | .ok v => v
/-- tokens ahead of what is read -/
def ahead (l : List Tok) : Except Nat (List Tok) → Except Nat (List Tok)
  | .error k => .error k
  | .ok m => .ok (l ++ m)
theorem ahead_nil (r : Except Nat (List Tok)) : ahead [] r = r := by cases r <;> rfl
theorem next_le (c : UInt8) (t : List UInt8) (x : Tok) (m : Nat) (h : nextL c t = .ok (x, m)) : m ≤ t.length := (next_app 59 [] (by decide) (by decide) c t x m h).1
theorem next_ne0 (c : UInt8) (t : List UInt8) (h : nextL c t = .error 0) : False := by
  unfold nextL at h
  by_cases hl : letter c.toNat = true
  · rw [if_pos hl] at h
    by_cases h16 : 16 < (t.takeWhile tailB).length + 1
    · rw [if_pos h16] at h; cases h
    · rw [if_neg h16] at h; cases h
  rw [if_neg hl] at h
  by_cases hg : digB c = true
  · rw [if_pos hg] at h
    by_cases hp : (parseL (c :: t.takeWhile alnB)).2 = 0
    · rw [if_pos hp] at h; cases h
    · rw [if_neg hp] at h; injection h with h; exact hp h
  rw [if_neg hg] at h
  by_cases hq : c = 39
  · rw [if_pos hq] at h
    cases hs : scanQ t with
    | none => rw [hs] at h; cases h
    | some q =>
      rw [hs] at h
      simp only at h
      cases hu : unqL (c :: t.take q) with
      | none => rw [hu] at h; cases h
      | some u => rw [hu] at h; cases h
  rw [if_neg hq] at h
  by_cases hm : markB c = true
  · rw [if_pos hm] at h; cases h
  · rw [if_neg hm] at h; cases h
theorem blank_index (c : UInt8) : (0 ≤ Lib.indexByte [32, 9] c) ↔ (c = 32 ∨ c = 9) := by rw [mem_index]; simp
theorem line_read (l : List Tok) (all rest : List UInt8) (c : UInt8) (t : List UInt8) (x : Tok) (m : Nat) (h : lineT all = ahead l (lineT rest)) (hr : rest = c :: t) (h1 : ¬ (c = 32 ∨ c = 9)) (h2 : c ≠ 59) (h3 : nextL c t = .ok (x, m)) :
    lineT all = ahead (l ++ [x]) (lineT (t.drop m)) := by
  rw [h, hr, lineT_ok c t x m h1 h2 h3]
  cases lineT (t.drop m) with
  | error k => rfl
  | ok q => simp [ahead]
theorem lineL_ok (s : List UInt8) (h : s.length ≤ 200) (v : List Tok) (e : lineT s = .ok v) : lineK s = 0 ∧ lineV s = v := by
  unfold lineK lineV lineL
  rw [if_neg (by omega), e]; exact ⟨rfl, rfl⟩
theorem lineL_err (s : List UInt8) (h : s.length ≤ 200) (k : Nat) (e : lineT s = .error k) : lineK s = k ∧ lineV s = [] := by
  unfold lineK lineV lineL
  rw [if_neg (by omega), e]; exact ⟨rfl, rfl⟩
theorem lineL_long (s : List UInt8) (h : ¬ s.length ≤ 200) : lineK s = 11 ∧ lineV s = [] := by
  unfold lineK lineV lineL
  rw [if_pos (by omega)]; exact ⟨rfl, rfl⟩

theorem below_two3 {w W W2 W3 : World} {o1 o2 : Obj} (h : Below w.heap.size w W) (hb : Below W.heap.size W W2) (h3 : Below w.heap.size ((W2.alloc o1).alloc o2) W3) : Below w.heap.size w W3 := by
  have h1 := h.size
  have h2 := hb.size
  exact (((below_step h hb).alloc (by omega) o1).alloc (by simp; omega) o2).trans h3
set_option maxRecDepth 100000 in
set_option maxHeartbeats 4000000 in
theorem line_any (s : ByteArray) (hs : s.size ≤ 9223372036854775807) (m : Int) (w : World) (hm : MaxAt w m) : Calls Tryz.prog 15 #[.string s] w fun e w' =>
    ∃ v, e = .returned (.tuple #[v, .int .i64 (lineK s.data.toList : Nat)]) ∧ w'.ownsRow w.heap.size 68 3 v (lineV s.data.toList).length (toks (lineV s.data.toList)) ∧ Below w.heap.size w w' := by
  have hsz := data_size s
  by_cases h200 : s.size ≤ 200
  · obtain ⟨BL, hBL⟩ : ∃ B : ByteArray, B = ⟨#[32, 9]⟩ := ⟨_, rfl⟩
    have hI : ∀ (c : UInt8) W, Calls Tryz.prog 32 #[.string BL, .int .u8 (c.toNat : Int)] W fun e w' => e = .returned (.int .i64 (Lib.indexByte [32, 9] c)) ∧ w' = W := fun c W => by
      have := Tryz.strings_IndexByte BL (c.toNat : Int) W
      rw [hBL] at this ⊢
      rwa [Int.toNat_natCast, show c.toNat.toUInt8 = c by simp [Nat.toUInt8]] at this
    have HI := Lib.hid hI
    clear hI
    go_enter Tryz.func15, Tryz.ntmps15
    rw [← hBL]
    clear hBL
    go_wp2
    go_step3
    go_wp2
    go_step3
    go_wp2
    go_loopw [4, 5] (fun v i wr => ∃ (k : Nat) (l : List Tok), k ≤ s.size ∧ i = .int .i64 k ∧ l.length ≤ k ∧ wr.ownsRow w.heap.size 68 3 v l.length (toks l) ∧ Below w.heap.size w wr ∧ Hid (lineT s.data.toList = ahead l (lineT (s.data.toList.drop k)))) (fun _ i _ => s.size - (intOf i).toNat)
    case atStart => exact ⟨0, [], by omega, rfl, by simp, World.ownsRow_nil _ _ _ _, Below.refl _ _, Lib.hid (by rw [ahead_nil]; rfl)⟩
    case round =>
      obtain ⟨k, l, hk, rfl, hlk, hown, hB, HQ⟩ := hrel
      have hbase := hB.size
      obtain ⟨sp, cp, rfl⟩ := own_slice hown
      by_cases hlt : k < s.size
      · have hd := drop_at s k hlt
        obtain ⟨c, hc⟩ : ∃ c, s[k]'hlt = c := ⟨_, rfl⟩
        rw [hc] at hd
        have HD := Lib.hid hd
        have hI := fun W => HI.out c W
        have hz := blank_index c
        obtain ⟨z, hzz⟩ : ∃ z, Lib.indexByte [32, 9] c = z := ⟨_, rfl⟩
        rw [hzz] at hI hz
        clear hzz hd
        by_cases h1 : c = 32 ∨ c = 9
        · have hz0 : 0 ≤ z := hz.2 h1
          clear hz
          go_wp2_with (go_at_call 32; refine (hI _).mono ?_; rintro e w' ⟨rfl, rfl⟩)
          refine ⟨⟨k + 1, l, by omega, by go_num, by omega, hown, hB, Lib.hid ?_⟩, by simp [intOf]; omega⟩
          rw [HQ.out, HD.out]
          rcases h1 with rfl | rfl
          · rw [lineT_space]
          · rw [lineT_tab]
        · have hz0 : ¬ 0 ≤ z := fun e => h1 (hz.1 e)
          clear hz
          by_cases h2 : c = 59
          · subst h2
            go_wp2_with (go_at_call 32; refine (hI _).mono ?_; rintro e w' ⟨rfl, rfl⟩)
            rw [Exit.noGoto_ret]
            go_ret2
            obtain ⟨e1, e2⟩ := lineL_ok s.data.toList (by rw [hsz]; exact h200) l (by rw [HQ.out, HD.out, lineT_end]; simp [ahead])
            rw [e1, e2]
            exact ⟨_, rfl, hown, hB⟩
          · have h2n : ((c.toNat : Int) == 59) = false := by
              rw [beq_eq_false_iff_ne]; intro e; exact h2 (UInt8.toNat.inj (by omega : c.toNat = 59))
            have hx : (s.extract k s.size).data.toList = c :: s.data.toList.drop (k + 1) := by
              rw [ByteArray.data_extract]; rw [← HD.out]; simp; rw [← hsz]; exact List.take_of_length_le (by simp)
            have hxs : (s.extract k s.size).size ≤ 200 := by simp; omega
            have hR := fun W h => read_any c (s.data.toList.drop (k + 1)) (s.extract k s.size) hx hxs m W h
            have hmr : MaxAt wr m := hm.below hB
            cases hnx : nextL c (s.data.toList.drop (k + 1)) with
            | error q =>
              have hq0 : q ≠ 0 := fun e => next_ne0 c _ (e ▸ hnx)
              rw [hnx] at hR
              have hqn : ((q : Int) != 0) = true := by simp; omega
              have hR2 : ∀ W (h : MaxAt W m), Calls Tryz.prog 33 #[.string (s.extract k s.size)] W fun e w' => e = .returned (.tuple #[.agg #[.int .i64 0, .string ⟨#[]⟩, .int .u16 0], .int .i64 0, .int .i64 (q : Nat)]) ∧ Below W.heap.size W w' := hR
              have HN := Lib.hid hnx
              clear hR hnx hx
              go_wp2_with (first | (go_at_call 32; refine (hI _).mono ?_; rintro e w' ⟨rfl, rfl⟩) | (go_at_call 33; refine (hR2 _ hmr).mono ?_; rintro e w2 ⟨rfl, hb⟩))
              rw [Exit.noGoto_ret]
              go_ret2
              obtain ⟨e1, e2⟩ := lineL_err s.data.toList (by rw [hsz]; exact h200) q (by rw [HQ.out, HD.out, lineT_err c _ q h1 h2 HN.out]; rfl)
              rw [e1, e2]
              exact ⟨_, rfl, World.ownsRow_nil _ _ _ _, (below_step hB hb).alloc (by have := hb.size; omega) _⟩
            | ok v =>
              obtain ⟨x, n⟩ := v
              have hle := next_le _ _ _ _ hnx
              rw [hnx] at hR
              rw [List.length_drop, hsz] at hle
              have hR2 : ∀ W (h : MaxAt W m), Calls Tryz.prog 33 #[.string (s.extract k s.size)] W fun e w' => e = .returned (.tuple #[.agg #[.int .i64 x.k, .string ⟨x.s.toArray⟩, .int .u16 (x.n : Nat)], .int .i64 ((n + 1 : Nat) : Int), .int .i64 0]) ∧ Below W.heap.size W w' := hR
              have HN := Lib.hid hnx
              clear hR hnx hx
              go_wp2_with (first
                | (go_at_call 32; refine (hI _).mono ?_; rintro e w' ⟨rfl, rfl⟩)
                | (go_at_call 33; refine (hR2 _ hmr).mono ?_; rintro e w2 ⟨rfl, hb⟩; have hown2 := own_below hown hb; have hsz2 := hb.size; have hk3 := at_new w2 (.cells #[.int .i64 x.k, .string ⟨x.s.toArray⟩, .int .u16 (x.n : Nat)] 68); obtain ⟨⟨_, _, _⟩, _, _, _⟩ := three hk3)
                | (at_builtin; refine wpList_append_tok (k := w2.heap.size + 1) (c := 1) (y := x) (t' := 68) (fr := (0, 0)) rfl (.tmp 40) (.tmp 42) 38 68 Tryz.underlying38 zero42 rfl w.heap.size (.slice sp l.length cp) l.length l rfl ((hown2.alloc _).alloc _) (by omega) _ _ _ rfl (at_new2 w2 _ _) rfl (by simp; omega) ?_; intro v3 w3 hown3 hB3 _))
              refine ⟨⟨k + (n + 1), l ++ [x], by omega, by go_num, by simp; omega, by rw [List.length_append]; exact hown3, below_two3 hB hb hB3, Lib.hid ?_⟩, by simp [intOf]; omega⟩
              rw [line_read l _ _ c _ x n HQ.out HD.out h1 h2 HN.out, List.drop_drop, show k + 1 + n = k + (n + 1) by omega]
      · obtain rfl : k = s.size := by omega
        go_wp2
        try rw [Exit.noGoto_ret]
        go_ret2
        obtain ⟨e1, e2⟩ := lineL_ok s.data.toList (by rw [hsz]; exact h200) l (by rw [HQ.out, drop_end s _ hlt, lineT_nil]; simp [ahead])
        rw [e1, e2]
        exact ⟨_, rfl, hown, hB⟩
  · go_enter Tryz.func15, Tryz.ntmps15
    go_wp2
    go_step3
    go_wp2
    try rw [Exit.noGoto_ret]
    go_ret2
    obtain ⟨e1, e2⟩ := lineL_long s.data.toList (by rw [hsz]; exact h200)
    rw [e1, e2]
    exact ⟨_, rfl, World.ownsRow_nil _ _ _ _, Below.refl _ _⟩
end Go.Proofs.YtaoeipbofhkkcaaGreatDoor
