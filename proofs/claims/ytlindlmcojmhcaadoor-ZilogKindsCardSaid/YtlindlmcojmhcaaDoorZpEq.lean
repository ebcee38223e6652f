/- What slices.Equal answers: whether two rows of texts are the same; the first is short. -/
import Derived.Test.YtlindlmcojmhcaaDoorIsTxt
import Derived.LoopTactic
import Derived.BigQuiet
namespace Go.Proofs.YtlindlmcojmhcaaDoor
open Go.RowKit

set_option maxHeartbeats 1000000 in
theorem equal_any (l m : List (List UInt8)) (hl : l.length ≤ 1000000) (va vb : Value) (w : World) (ha : TextR w va l) (hb : TextR w vb m) : Calls Tryd.prog 40 #[va, vb] w fun e w' => e = .returned (.bool (decide (l = m))) ∧ Below w.heap.size w w' := by
  obtain ⟨b, o, sp, c, rfl, hc, h2, h3⟩ := ha
  obtain ⟨b', o', sp', c', rfl, hc', h2', h3'⟩ := hb
  by_cases hlen : l.length = m.length
  · have H2 := Lib.hid h2
    have H3 := Lib.hid h3
    have H2' := Lib.hid h2'
    have H3' := Lib.hid h3'
    clear h2 h3 h2' h3'
    obtain ⟨n, hn⟩ : ∃ n, l.length = n := ⟨_, rfl⟩
    have hn' : m.length = n := by omega
    have HN := Lib.hid hn
    have HN' := Lib.hid hn'
    rw [hn] at hl hc ⊢
    rw [hn'] at hc' ⊢
    clear hn hn' hlen
    have HD : ∀ k, Hid (l.take k = m.take k → n ≤ k → decide (l = m) = true) := fun k => Lib.hid fun h hk => by
      rw [List.take_of_length_le (by rw [HN.out]; exact hk), List.take_of_length_le (by rw [HN'.out]; exact hk)] at h
      exact decide_eq_true h
    generalize hd : decide (l = m) = d at HD ⊢
    have HDD := Lib.hid hd
    clear hd
    go_enter Tryd.func40, Tryd.ntmps40
    go_wp2
    go_loopw [5, 13] (fun _ i wr => ∃ k : Nat, k ≤ n ∧ i = .int .i64 k ∧ Hid (Below w.heap.size w wr) ∧ Hid (l.take k = m.take k)) (fun _ i _ => n - (intOf i).toNat)
    case atStart => exact ⟨0, Nat.zero_le _, rfl, Lib.hid (Below.refl _ _), Lib.hid rfl⟩
    case round =>
      obtain ⟨k, hk, rfl, hB, hx⟩ := hrel
      by_cases hlt : k < n
      · have hi : k < l.length := by rw [HN.out]; exact hlt
        have hi' : k < m.length := by rw [HN'.out]; exact hlt
        obtain ⟨x, hy⟩ : ∃ y, l[k]? = some y := ⟨_, List.getElem?_eq_getElem hi⟩
        obtain ⟨y, hy'⟩ : ∃ y, m[k]? = some y := ⟨_, List.getElem?_eq_getElem hi'⟩
        obtain rfl := H2.out (by rw [HN.out]; omega)
        obtain rfl := H2'.out (by rw [HN'.out]; omega)
        have k0 := keep_below hB.out _ _ (H3.out k x hy)
        have k1 := keep_below hB.out _ _ (H3'.out k y hy')
        unfold strV at k0 k1
        have HY := Lib.hid hy
        have HY' := Lib.hid hy'
        clear hy hy'
        by_cases he : x = y
        · subst he
          have hxx : (x != x) = false := by simp
          go_wp2
          go_quiet (fail)
          go_wp2
          go_roundw
          case rel => exact ⟨k + 1, by omega, by go_num, Lib.hid (below_drewN hB.out _), Lib.hid (by rw [List.take_add_one, List.take_add_one, HY.out, HY'.out, hx.out])⟩
          case measure => simp [intOf]; omega
        · have hbb : (x == y) = false := by rw [beq_eq_false_iff_ne]; exact he
          have hbn : (x != y) = true := by rw [bne_iff_ne]; exact he
          obtain rfl : d = false := by
            rw [← HDD.out]
            refine decide_eq_false fun e => he ?_
            have h1 := HY.out
            rw [e, HY'.out] at h1
            exact (Option.some.inj h1).symm
          go_wp2
          go_quiet (fail)
          go_wp2
          go_ret
          exact ⟨rfl, below_drewN hB.out _⟩
      · obtain rfl : k = n := by omega
        have hd := (HD k).out hx.out (Nat.le_refl _)
        subst hd
        clear HD
        go_wp2
        go_ret
        exact ⟨rfl, hB.out⟩
  · have hd : decide (l = m) = false := decide_eq_false fun e => hlen (by rw [e])
    rw [hd]
    clear h2 h3 h2' h3' hd
    generalize l.length = p at hlen hc ⊢
    generalize m.length = q at hlen hc' ⊢
    have hb1 : ((p : Int) == q) = false := by rw [beq_eq_false_iff_ne]; omega
    have hb2 : ((p : Int) != q) = true := by rw [bne_iff_ne]; omega
    go_enter Tryd.func40, Tryd.ntmps40
    go_wp2
    go_ret
    exact ⟨rfl, Below.refl _ _⟩
end Go.Proofs.YtlindlmcojmhcaaDoor
