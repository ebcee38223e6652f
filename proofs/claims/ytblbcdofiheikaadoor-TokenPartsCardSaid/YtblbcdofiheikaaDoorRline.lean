/- What the document's Line does when it is called: the tokens of a line in a row of its own, or the kind of error; a text is shorter than 9223372036854775807 bytes. -/
import Derived.Test.YtblbcdofiheikaaDoorNext
import Derived.Test.YtblbcdofiheikaaDoorLine
namespace Go.Proofs.YtblbcdofiheikaaDoor
open Go.RowKit Go.Proofs.NumMath

theorem extract_drop (s : ByteArray) (n : Nat) : (s.extract n s.size).data.toList = s.data.toList.drop n := by
  rw [ByteArray.data_extract]; simp; rw [← data_size]; exact List.take_of_length_le (by simp)
def strSize : Value → Nat
  | .string r => r.size
  | _ => 0
set_option maxRecDepth 100000 in
set_option maxHeartbeats 4000000 in
theorem rline_any (s : ByteArray) (hs : s.size ≤ 9223372036854775807) (w : World) : Calls Tryd.prog 10 #[.string s] w fun e w' =>
    ∃ v, e = .returned (.tuple #[v, .int .i64 (lineK s.data.toList : Nat)]) ∧ w'.ownsRow w.heap.size 41 3 v (lineV s.data.toList).length (toks (lineV s.data.toList)) ∧ Below w.heap.size w w' := by
  have hsz := data_size s
  by_cases h200 : s.size ≤ 200
  · have HZ := Lib.hid hsz
    clear hsz
    obtain ⟨A, hA⟩ : ∃ A, s.data.toList = A := ⟨_, rfl⟩
    rw [hA] at HZ ⊢
    have HA := Lib.hid hA
    clear hA
    go_enter Tryd.func10, Tryd.ntmps10
    go_wp2
    go_loopw [0, 4] (fun sv v wr => ∃ (r : ByteArray) (l : List Tok), sv = .string r ∧ l.length + r.size ≤ s.size ∧ wr.ownsRow w.heap.size 41 3 v l.length (toks l) ∧ Below w.heap.size w wr ∧ Hid (lineT A = ahead l (lineT r.data.toList))) (fun sv _ _ => strSize sv)
    case atStart => exact ⟨s, [], rfl, by simp, World.ownsRow_nil _ _ _ _, Below.refl _ _, Lib.hid (by rw [ahead_nil, HA.out])⟩
    case round =>
      obtain ⟨r, l, rfl, hlk, hown, hB, HQ⟩ := hrel
      have hbase := hB.size
      obtain ⟨sp, cp, rfl⟩ := own_slice hown
      by_cases h0 : 0 < r.size
      · have hd := drop_at r 0 h0
        rw [List.drop_zero] at hd
        obtain ⟨c, hc⟩ : ∃ c, r[0]'h0 = c := ⟨_, rfl⟩
        rw [hc] at hd
        obtain ⟨t, ht⟩ : ∃ t, r.data.toList.drop (0 + 1) = t := ⟨_, rfl⟩
        rw [ht] at hd
        have HD := Lib.hid hd
        have hx1 := extract_drop r 1
        rw [hd] at hx1
        have HX1 : Hid ((r.extract 1 r.size).data.toList = t) := Lib.hid hx1
        clear ht hx1
        by_cases h32 : c = 32
        · subst h32
          go_wp2
          refine ⟨⟨r.extract 1 r.size, l, rfl, by simp; omega, hown, hB, Lib.hid ?_⟩, by simp [strSize]; omega⟩
          rw [HQ.out, HD.out, lineT_space, HX1.out]
        · have h32n : ((c.toNat : Int) == 32) = false := by
            rw [beq_eq_false_iff_ne]; intro e; exact h32 (UInt8.toNat.inj (by omega : c.toNat = 32))
          by_cases h9 : c = 9
          · subst h9
            go_wp2
            refine ⟨⟨r.extract 1 r.size, l, rfl, by simp; omega, hown, hB, Lib.hid ?_⟩, by simp [strSize]; omega⟩
            rw [HQ.out, HD.out, lineT_tab, HX1.out]
          · have h9n : ((c.toNat : Int) == 9) = false := by
              rw [beq_eq_false_iff_ne]; intro e; exact h9 (UInt8.toNat.inj (by omega : c.toNat = 9))
            have h1 : ¬ (c = 32 ∨ c = 9) := fun e => e.elim h32 h9
            by_cases h2 : c = 59
            · subst h2
              go_wp2
              go_ret2
              obtain ⟨e1, e2⟩ := lineL_ok A (by rw [HZ.out]; exact h200) l (by rw [HQ.out, HD.out, lineT_end]; simp [ahead])
              rw [e1, e2]
              exact ⟨_, rfl, hown, hB⟩
            · have h2n : ((c.toNat : Int) == 59) = false := by
                rw [beq_eq_false_iff_ne]; intro e; exact h2 (UInt8.toNat.inj (by omega : c.toNat = 59))
              have hR := fun W => next_any c t r hd (by omega) W
              have hrl : r.size = t.length + 1 := by rw [← data_size, hd]; simp
              cases hnx : nextL c t with
              | error q =>
                have hq0 : q ≠ 0 := fun e => next_ne0 c _ (e ▸ hnx)
                rw [hnx] at hR
                have hqn : ((q : Int) != 0) = true := by simp; omega
                have HN := Lib.hid hnx
                clear hnx hd hrl
                go_wp2_with (go_at_call 23; refine (hR _).mono ?_; rintro e w2 ⟨v, rfl, ⟨a, b, z, n, rfl⟩, hb⟩)
                go_ret2
                obtain ⟨e1, e2⟩ := lineL_err A (by rw [HZ.out]; exact h200) q (by rw [HQ.out, HD.out, lineT_err c _ q h1 h2 HN.out]; rfl)
                rw [e1, e2]
                exact ⟨_, rfl, World.ownsRow_nil _ _ _ _, (below_step hB hb).alloc (by have := hb.size; omega) _⟩
              | ok v =>
                obtain ⟨x, n⟩ := v
                have hle := next_le _ _ _ _ hnx
                rw [hnx] at hR
                have HN := Lib.hid hnx
                have hx2 := extract_drop r (n + 1)
                rw [hd, List.drop_succ_cons] at hx2
                have HX2 := Lib.hid hx2
                clear hx2
                have hnr : n + 1 ≤ r.size := by omega
                clear hnx hd hrl
                go_wp2_with (first
                  | (go_at_call 23; refine (hR _).mono ?_; rintro e w2 ⟨v, rfl, rfl, hb⟩; have hown2 := own_below hown hb; have hsz2 := hb.size; have hk3 := at_new w2 (.cells #[.int .i64 x.k, .string ⟨x.s.toArray⟩, .int .u16 (x.n : Nat)] 41); obtain ⟨⟨_, _, _⟩, _, _, _⟩ := three hk3)
                  | (at_builtin; refine wpList_append_tok (k := w2.heap.size + 1) (c := 1) (y := x) (t' := 41) (fr := (0, 0)) rfl (.tmp 37) (.tmp 39) 27 41 Tryd.underlying27 zero41 rfl w.heap.size (.slice sp l.length cp) l.length l rfl ((hown2.alloc _).alloc _) (by omega) _ _ _ rfl (at_new2 w2 _ _) rfl (by simp; omega) ?_; intro v3 w3 hown3 hB3 _))
                refine ⟨⟨r.extract (n + 1) r.size, l ++ [x], rfl, by simp; omega, by rw [List.length_append]; exact hown3, below_two3 hB hb hB3, Lib.hid ?_⟩, by simp [strSize]; omega⟩
                rw [line_read l _ _ c t x n HQ.out HD.out h1 h2 HN.out, HX2.out]
      · obtain ⟨hr0⟩ : Nonempty (r.data.toList = []) := ⟨by have := data_size r; exact List.eq_nil_of_length_eq_zero (by omega)⟩
        have HR0 := Lib.hid hr0
        clear hr0
        go_wp2
        go_ret2
        obtain ⟨e1, e2⟩ := lineL_ok A (by rw [HZ.out]; exact h200) l (by rw [HQ.out, HR0.out, lineT_nil]; simp [ahead])
        rw [e1, e2]
        exact ⟨_, rfl, hown, hB⟩
  · go_enter Tryd.func10, Tryd.ntmps10
    go_wp2
    go_ret2
    obtain ⟨e1, e2⟩ := lineL_long s.data.toList (by rw [hsz]; exact h200)
    rw [e1, e2]
    exact ⟨_, rfl, World.ownsRow_nil _ _ _ _, Below.refl _ _⟩
end Go.Proofs.YtblbcdofiheikaaDoor
